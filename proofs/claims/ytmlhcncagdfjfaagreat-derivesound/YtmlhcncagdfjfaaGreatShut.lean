import Derived.Test.YtmlhcncagdfjfaaGreatWk
set_option maxRecDepth 100000
set_option maxHeartbeats 12800000
namespace Go.Proofs.YtmlhcncagdfjfaaGreat
open Go.RowKit
theorem qk {f : Int} : ∀ {pre r : List Int}, f ∉ pre → dl f (pre ++ f :: r) = (pre ++ [f], r)
 | [], r, _ => by show dl f (f :: r) = _; unfold dl; rw [if_pos rfl]; rfl
 | x :: pre, r, h => by
  show dl f (x :: (pre ++ f :: r)) = _
  unfold dl
  rw [if_neg (fun e => h (by simp [e])), qk (fun hm => h (by simp [hm]))]
  rfl
theorem wn {w : World} {B e k : Nat} {a : Option Addr} {n c : Nat} {xs : List Value} (h : w.ownsRow B e k (.slice a n c) n xs) {m : Nat} (hm : m ≤ n) (ha : a ≠ none) : w.ownsRow B e k (.slice a m c) m (xs.take (m * k)) := by
 obtain ⟨h1, h2⟩ := h
 rcases h2 with ⟨e1, _⟩ | ⟨g, cap, Aa, e1, h3, h4, h5, h6, h7, h8⟩
 · cases e1; exact absurd rfl ha
 · cases e1
   have Ab : m * k ≤ n * k := Nat.mul_le_mul_right k hm
   refine ⟨by rw [List.length_take, h1]; omega, .inr ⟨g, c, Aa, rfl, h3, h4, by omega, h6, h7, ?_⟩⟩
   rw [← h8, List.take_take, Nat.min_eq_left Ab]
structure Mv (B cb bb : Nat) (ov : Value) (Z : Nat → Prop) (mv : Value) (kn : List Int) (w : World) : Prop where
 row : w.ownsRow B 3 1 mv kn.length (au kn)
 ne : ∀ g, mv.ownBlock = some g → g ≠ cb ∧ g ≠ bb ∧ ov.ownBlock ≠ some g ∧ ¬ Z g
section
variable {B W : Nat} {nv : Value} {next : List (List Int)} {n cb bb sb : Nat} {ov kv mv : Value} {Z : Nat → Prop} {s : Wk} {w w' : World} {kn : List Int}
theorem Wi.grown (h : Wi B W nv next n cb bb sb ov kv Z s w) (hm : Mv B cb bb ov Z mv kn w) (hB : B ≤ w.heap.size) (hb : ∀ k, k < w.heap.size → mv.ownBlock ≠ some k → w'.heap[k]? = w.heap[k]?) : Wi B W nv next n cb bb sb ov kv Z s w' := by
 have hz : ∀ g, Z g → w'.heap[g]? = w.heap[g]? := fun g hg => by obtain ⟨_, _, _, _, vs, h5⟩ := h.z g hg; exact hb g h5.lt fun e => (hm.ne g e).2.2.2 hg
 obtain ⟨xs, k1, _⟩ := h.rk
 refine ⟨h.bx.keep (hb _ h.bx.lt (az hm.row h.bx (by decide))), h.nx.keep fun g hg => hb g (by omega) fun e => by have := (hm.row.lt g e).1; omega, h.lo, h.fc.keep (hb _ h.fc.lt fun e => (hm.ne _ e).1 rfl), h.fb.keep (hb _ h.fb.lt fun e => (hm.ne _ e).2.1 rfl), h.fs.keep (hb _ h.fs.lt (az hm.row h.fs (by decide))), owns_keep h.ro fun g hg => hb g (aB h.ro hg) fun e => (hm.ne g e).2.2.1 hg, h.ne, gR h.rk (fun g hg => hb g (aB k1 hg) ?_) hz, oK h.z hz⟩
 exact mT (aS hm.row (Nat.zero_le _)) (aS k1 (Nat.zero_le _)) (by decide) hg
theorem Mv.nil : Mv B cb bb ov Z (.slice none 0 0) [] w := ⟨⟨rfl, .inl ⟨rfl, rfl⟩⟩, fun g e => by cases e⟩
theorem Mv.grow (h : Wi B W nv next n cb bb sb ov kv Z s w) (hm : Mv B cb bb ov Z mv kn w) {x : Int} {g4 cap4 : Nat} {ob : Obj} (hown : w'.ownsRow B 3 1 (.slice (some ⟨g4, 0, none⟩) (kn.length + 1) cap4) (kn.length + 1) (au kn ++ [.int .i64 x]))
    (hg : (mv.ownBlock = some g4 ∧ (w.alloc ob).grownBy w' (some g4)) ∨ (g4 = w.heap.size + 1 ∧ (w.alloc ob).grownBy w' none)) : Mv B cb bb ov Z (.slice (some ⟨g4, 0, none⟩) (kn.length + 1) cap4) (kn ++ [x]) w' := by
 refine ⟨by rw [List.length_append, dD]; exact hown, fun g e => ?_⟩
 have e' : g4 = g := by simpa [Value.ownBlock] using e
 subst e'
 clear e
 rcases hg with ⟨h1, _⟩ | ⟨rfl, _⟩
 · exact hm.ne g4 h1
 · refine ⟨fun e => ?_, fun e => ?_, fun e => ?_, fun e => ?_⟩
   · have := h.fc.lt; omega
   · have := h.fb.lt; omega
   · have := aB h.ro e; omega
   · obtain ⟨_, _, _, _, vs, h5⟩ := h.z _ e; have := h5.lt; omega
theorem Mv.set (h : Wi B W nv next n cb bb sb ov kv Z s w) (hm : Mv B cb bb ov Z mv kn w) {q i : Nat} {u : Value} (hq : q = W ∨ q = sb) {ov' : Value} (ho : ov'.ownBlock = ov.ownBlock) : Mv B cb bb ov' Z mv kn (w.setCell ⟨q, i, none⟩ u) := by
 refine ⟨owns_keep hm.row fun g hg => other_set fun e => ?_, fun g e => by obtain ⟨h1, h2, h3, h4⟩ := hm.ne g e; exact ⟨h1, h2, by rw [ho]; exact h3, h4⟩⟩
 subst e
 rcases hq with rfl | rfl
 · exact az hm.row h.bx (by decide) hg
 · exact az hm.row h.fs (by decide) hg
theorem Wi.pop (h : Wi B W nv next n cb bb sb ov kv Z s w) {q : List Int} {x : Int} (hq : s.opn = q ++ [x]) {g0 m c : Nat} (ho : ov = .slice (some ⟨g0, 0, none⟩) m c) : Wi B W nv next n cb bb sb (.slice (some ⟨g0, 0, none⟩) q.length c) kv Z { s with opn := q } (w.setCell ⟨W, 4, none⟩ (.slice (some ⟨g0, 0, none⟩) q.length c)) := by
 subst ho
 have Aa := h.ro
 have hl : s.opn.length = q.length + 1 := by rw [hq]; simp
 have hm : m = q.length + 1 := by
  rcases Aa.2 with ⟨e, h0⟩ | ⟨g, cap, Ag, e, _⟩
  · omega
  · simp only [Value.slice.injEq] at e; omega
 subst hm
 rw [hl] at Aa
 have Ab := wn (m := q.length) Aa (by omega) (by simp)
 have e1 : (au s.opn).take (q.length * 1) = au q := by rw [hq, dD, Nat.mul_one, ← li (l := q), List.take_left]
 rw [e1] at Ab
 have hz := h.hz (.inl rfl)
 obtain ⟨l1, l2, l3, l4⟩ := h.lo
 obtain ⟨xs, k1, _⟩ := h.rk
 have Ac : (Value.slice (some ⟨g0, 0, none⟩) (q.length + 1) c).ownBlock ≠ some W := az h.ro h.bx (by decide)
 have Af : (Value.slice (some ⟨g0, 0, none⟩) q.length c).ownBlock ≠ some W := Ac
 have Ad : cb ≠ bb ∧ (Value.slice (some ⟨g0, 0, none⟩) q.length c).ownBlock ≠ some cb ∧ (Value.slice (some ⟨g0, 0, none⟩) q.length c).ownBlock ≠ some bb := h.ne
 have Ae : ∀ g, Z g → B ≤ g ∧ g ≠ cb ∧ g ≠ bb ∧ (Value.slice (some ⟨g0, 0, none⟩) q.length c).ownBlock ≠ some g ∧ ∃ vs, Fx g 3 vs w := h.z
 refine ⟨h.bx.set 4 _, h.nx.keep fun g hg => other_set (by omega), h.lo, h.fc.keep (other_set (ao h.fc h.bx (by decide))), h.fb.keep (other_set (ao h.fb h.bx (by decide))), h.fs.keep (other_set (ao h.fs h.bx (by decide))), ?_, Ad, gR h.rk (fun g hg => other_set fun e => az k1 h.bx (by decide) (e ▸ hg)) fun g hg => other_set (hz g hg), oK Ae fun g hg => other_set (hz g hg)⟩
 exact owns_keep Ab fun g hg => other_set fun e => Af (e ▸ hg)
theorem Wi.knot (h : Wi B W nv next n cb bb sb ov kv Z s w) (hm : Mv B cb bb ov Z mv kn w) (hB : B ≤ w.heap.size) (hkl : kn.length ≤ 4096) {xs : List Value} (hx : w.ownsRow B 26 1 kv s.knots.length xs) (hxs : ∀ (i : Nat) k, s.knots[i]? = some k → ∃ v, xs[i]? = some v ∧ RZ Z 1 cI w k v) {g4 cap4 : Nat} {ob : Obj} (hown : w'.ownsRow B 26 1 (.slice (some ⟨g4, 0, none⟩) (s.knots.length + 1) cap4) (s.knots.length + 1) (xs ++ [mv]))
    (hg : (kv.ownBlock = some g4 ∧ (w.alloc ob).grownBy w' (some g4)) ∨ (g4 = w.heap.size + 1 ∧ (w.alloc ob).grownBy w' none)) :
    Wi B W nv next n cb bb sb ov (.slice (some ⟨g4, 0, none⟩) (s.knots.length + 1) cap4) (fun g => Z g ∨ mv.ownBlock = some g) { s with knots := s.knots ++ [kn] } (w'.setCell ⟨W, 6, none⟩ (.slice (some ⟨g4, 0, none⟩) (s.knots.length + 1) cap4)) := by
 have ho : ∀ k, k < w.heap.size → kv.ownBlock ≠ some k → w'.heap[k]? = w.heap[k]? := fun k hk hn => fD rfl hg hk hn
 have Aj : kv.ownBlock ≠ some W := az hx h.bx (by decide)
 have Aa := h.bx.keep (ho _ h.bx.lt Aj)
 have Ad := h.fc.keep (ho _ h.fc.lt (az hx h.fc (by decide)))
 have Ae := h.fb.keep (ho _ h.fb.lt (az hx h.fb (by decide)))
 have Ab := h.fs.keep (ho _ h.fs.lt (az hx h.fs (by decide)))
 have Ag : ∀ g, Z g → w'.heap[g]? = w.heap[g]? := fun g hg => by
  obtain ⟨_, _, _, _, vs, h5⟩ := h.z g hg
  exact ho g h5.lt (az hx h5 (by decide))
 have Ai : ∀ g, mv.ownBlock = some g → w'.heap[g]? = w.heap[g]? := fun g e => ho g (aB hm.row e) (mT (aS hx (Nat.zero_le _)) (aS hm.row (Nat.zero_le _)) (by decide) e)
 obtain ⟨l1, l2, l3, l4⟩ := h.lo
 have Ac : ∀ g, mv.ownBlock = some g → ∃ vs, Fx g 3 vs w := fun g e => by
  rcases hm.row.2 with ⟨e2, _⟩ | ⟨g', cap, Am, e2, _, h4, _⟩
  · rw [e2] at e; cases e
  · rw [e2] at e; cases e; exact ⟨Am.toList, by unfold Fx; rw [Array.toArray_toList]; exact h4⟩
 have Al : ∀ g, (Z g ∨ mv.ownBlock = some g) → g ≠ W := fun g hg => by
  rcases hg with hg | hg
  · exact h.hz (.inl rfl) g hg
  · obtain ⟨vs, hv⟩ := Ac g hg; exact ao hv h.bx (by decide)
 have hZ : ∀ g, (Z g ∨ mv.ownBlock = some g) → (w'.setCell ⟨W, 6, none⟩ (.slice (some ⟨g4, 0, none⟩) (s.knots.length + 1) cap4)).heap[g]? = w.heap[g]? := fun g hg => by
  rw [other_set (Al g hg)]
  rcases hg with hg | hg
  · exact Ag g hg
  · exact Ai g hg
 refine ⟨Aa.set 6 _, h.nx.keep fun g hg => ?_, h.lo, Ad.keep (other_set (ao Ad Aa (by decide))), Ae.keep (other_set (ao Ae Aa (by decide))), Ab.keep (other_set (ao Ab Aa (by decide))), owns_keep h.ro fun g hg => ?_, h.ne, ?_, fun g hg => ?_⟩
 · rw [other_set (by omega)]
   exact ho g (by omega) fun e => by have := (hx.lt g e).1; omega
 · rw [other_set fun (e : g = W) => az h.ro h.bx (by decide) (e ▸ hg)]
   exact ho g (aB h.ro hg) (mT (aS hx (Nat.zero_le _)) (aS h.ro (Nat.zero_le _)) (by decide) hg)
 · refine ⟨xs ++ [mv], by show World.ownsRow _ _ _ _ _ (s.knots ++ [kn]).length _; rw [List.length_append]; exact owns_keep hown fun g e => other_set fun e2 => az hown Aa (by decide) (e2 ▸ e), fun i k hi => ?_⟩
   have Ak : xs.length = s.knots.length := by have := hx.1; omega
   by_cases hil : i < s.knots.length
   · rw [List.getElem?_append_left hil] at hi
     obtain ⟨v, h3, h4⟩ := hxs i k hi
     exact ⟨v, by rw [List.getElem?_append_left (by omega)]; exact h3, RZ.keep h4 (fun g hg => ⟨.inl hg, hZ g (.inl hg)⟩) fun _ _ h => h⟩
   · have Af : i = s.knots.length := by
      have := (List.getElem?_eq_some_iff.1 hi).1
      simp at this
      omega
     subst Af
     rw [List.getElem?_append_right (Nat.le_refl _), Nat.sub_self] at hi
     simp at hi
     subst hi
     refine ⟨mv, by rw [← Ak, List.getElem?_append_right (Nat.le_refl _), Nat.sub_self]; rfl, ?_⟩
     have Ah : RZ (fun g => Z g ∨ mv.ownBlock = some g) 1 cI w kn mv := RZ.of_owns hm.row (fun g e => .inr e) (by omega) fun i x hi => by
      unfold cI au
      rw [Nat.mul_one, ← List.map_drop, be hi]
      rfl
     exact RZ.keep Ah (fun g hg => ⟨hg, hZ g hg⟩) fun _ _ h => h
 · rcases hg with hg' | hg'
   · obtain ⟨h1, h2, h3, h4, vs, h5⟩ := h.z g hg'
     exact ⟨h1, h2, h3, h4, vs, h5.keep (hZ g (.inl hg'))⟩
   · obtain ⟨h1, h2, h3, h4⟩ := hm.ne g hg'
     obtain ⟨vs, hv⟩ := Ac g hg'
     exact ⟨(hm.row.lt g hg').1, h1, h2, h3, vs, hv.keep (hZ g (.inr hg'))⟩
def WI (B W : Nat) (nv : Value) (next : List (List Int)) (n cb bb sb : Nat) (s : Wk) (w : World) : Prop := ∃ ov kv Z, Wi B W nv next n cb bb sb ov kv Z s w
theorem Wi.cells (h : Wi B W nv next n cb bb sb ov kv Z s w) : w.cell? ⟨W, 0, none⟩ = some nv ∧ w.cell? ⟨W, 1, none⟩ = some (sl cb n) ∧ w.cell? ⟨W, 2, none⟩ = some (sl bb n) ∧ w.cell? ⟨W, 3, none⟩ = some (.int .i64 s.clock) ∧ w.cell? ⟨W, 4, none⟩ = some ov ∧ w.cell? ⟨W, 5, none⟩ = some (sl sb n) ∧ w.cell? ⟨W, 6, none⟩ = some kv :=
 ⟨h.bx.get rfl, h.bx.get rfl, h.bx.get rfl, h.bx.get rfl, h.bx.get rfl, h.bx.get rfl, h.bx.get rfl⟩
theorem pS (h : Wi B W nv next n cb bb sb ov kv Z s w) {q : List Int} {x : Int} (hq : s.opn = q ++ [x]) : ∃ g c, ov = .slice (some ⟨g, 0, none⟩) (q.length + 1) c ∧ q.length + 1 ≤ c ∧ w.cell? ⟨g, q.length, none⟩ = some (.int .i64 x) := by
 have hr := h.ro
 have hl : s.opn.length = q.length + 1 := by rw [hq]; simp
 have hi : (au s.opn)[q.length]? = some (.int .i64 x) := by rw [hq, dD, ← li (l := q), List.getElem?_append_right (Nat.le_refl _), Nat.sub_self]; rfl
 obtain ⟨g, c, e, h1, _, _⟩ := jk (aS hr (Nat.zero_le _)) hi
 refine ⟨g, c, by rw [e, hl], ?_, h1⟩
 rcases hr.2 with ⟨e2, h0⟩ | ⟨g', cap, Aa, e2, _, _, h5, _⟩
 · omega
 · rw [e] at e2; simp only [Value.slice.injEq] at e2; omega
end
theorem ya {B W : Nat} {nv : Value} {next : List (List Int)} {n cb bb sb : Nat} {ov kv mv : Value} {Z : Nat → Prop} {s : Wk} {w w' : World} {kn : List Int} (h : Wi B W nv next n cb bb sb ov kv Z s w) (hm : Mv B cb bb ov Z mv kn w) (hB : B ≤ w.heap.size) (hkl : kn.length ≤ 4096) {xs : List Value} (hx : w.ownsRow B 26 1 kv s.knots.length xs) (hxs : ∀ (i : Nat) k, s.knots[i]? = some k → ∃ v, xs[i]? = some v ∧ RZ Z 1 cI w k v)
    {K kc : Nat} {ka : Option Addr} (hK : s.knots.length = K) (hkv : kv = .slice ka s.knots.length kc) {g4 cap4 : Nat} {ob : Obj} (hown : w'.ownsRow B 26 1 (.slice (some ⟨g4, 0, none⟩) (K + 1) cap4) (K + 1) (xs ++ [mv]))
    (hg : (Value.ownBlock (.slice ka K kc) = some g4 ∧ (w.alloc ob).grownBy w' (some g4)) ∨ (g4 = w.heap.size + 1 ∧ (w.alloc ob).grownBy w' none)) :
    w'.cell? ⟨W, 6, none⟩ = some (.slice ka K kc) ∧ w'.frozen? ⟨W, 6, none⟩ = false ∧ Wi B W nv next n cb bb sb ov (.slice (some ⟨g4, 0, none⟩) (K + 1) cap4) (fun g => Z g ∨ mv.ownBlock = some g) { s with knots := s.knots ++ [kn] } (w'.setCell ⟨W, 6, none⟩ (.slice (some ⟨g4, 0, none⟩) (K + 1) cap4)) ∧ Below B w (w'.setCell ⟨W, 6, none⟩ (.slice (some ⟨g4, 0, none⟩) (K + 1) cap4)) := by
 subst hK
 rw [← hkv] at hg ⊢
 have Ab : kv.ownBlock ≠ some W := az hx h.bx (by decide)
 have Aa := h.bx.keep (fD rfl hg h.bx.lt Ab)
 refine ⟨Aa.get rfl, Aa.frz 6, h.knot hm hB hkl hx hxs hown hg, ?_⟩
 exact ((dN (Z := fun k => B ≤ k) rfl hg fun g e => (hx.lt g e).1).below fun k hk => ⟨by omega, by omega⟩).setCell (p := ⟨W, 6, none⟩) h.lo.1 _
theorem rM {B W : Nat} {nv : Value} {next : List (List Int)} {n cb bb sb : Nat} {s : Wk} {w : World} (h : WI B W nv next n cb bb sb s w) (hB : B ≤ w.heap.size) (ho : OkW n s) (hn : n ≤ 4096) {first : Int} (hf : first ∈ s.opn) :
    Calls Tryz.prog 168 #[aa W, .int .i64 first] w fun e w' => e = .returned (.tuple #[]) ∧ WI B W nv next n cb bb sb (jQ first s) w' ∧ Below B w w' := by
 obtain ⟨iI, AM, AF, AI, AG⟩ := info_parts iE
 obtain ⟨iL, AZ, Be, AX, AV⟩ := info_parts o9
 obtain ⟨ov, kv, Z, hw⟩ := h
 obtain ⟨st, Aq⟩ : ∃ st, s.opn.reverse = st := ⟨_, rfl⟩
 have Bj : st.length ≤ 4096 := by have h1 := ho.ol; have h2 := ho.c1; rw [← Aq, List.length_reverse]; omega
 have Bd : s.knots.length ≤ 4096 := by have h1 := ho.kl; have h2 := ho.c1; omega
 have AK : ∀ z ∈ st, 0 ≤ z ∧ z < (n : Int) := fun z hz => ho.op z (by rw [← Aq] at hz; simpa using hz)
 have AW := hide AK
 have Bi := hide Aq
 have AH : first ∈ st := by rw [← Aq]; simpa using hf
 have H0 : Hid (∃ ov kv Z, Wi B W nv next n cb bb sb ov kv Z { s with opn := st.reverse, shut := dJ s.shut [] } w ∧ Mv B cb bb ov Z (.slice none 0 0) [] w) := hide ⟨ov, kv, Z, by rw [← Aq, List.reverse_reverse]; exact hw, Mv.nil⟩
 have HLs := hide ho.ls
 have HF := hide AH
 clear hw AK Aq hf AH
 go_enter Tryz.func168, Tryz.ntmps168
 go_wp2_with fail
 go_loopw [4] (fun mv wr => ∃ (kn r : List Int) (ma : Option Addr) (mc : Nat), mv = .slice ma kn.length mc ∧ kn.length ≤ st.length ∧ Hid (st = kn ++ r) ∧ Hid (first ∉ kn ∧ first ∈ r ∨ ∃ Aa, kn = Aa ++ [first] ∧ first ∉ Aa) ∧ Hid (∃ ov kv Z, Wi B W nv next n cb bb sb ov kv Z { s with opn := r.reverse, shut := dJ s.shut kn } wr ∧ Mv B cb bb ov Z (.slice ma kn.length mc) kn wr) ∧ Hid (Below B w wr)) (fun mv _ => st.length - (match mv with | .slice _ k _ => k | _ => 0))
 case atStart => exact ⟨[], st, none, 0, rfl, by simp, hide (by simp), hide (.inl ⟨by simp, HF.out⟩), H0, hide (Below.refl _ _)⟩
 case round =>
  clear H0 HF
  obtain ⟨kn, r, ma, mc, rfl, Bf, HS, HC, AQ, HB⟩ := hrel
  obtain ⟨ov, kv, Z, Ak, Ab⟩ := AQ.out
  clear AQ
  have AB : B ≤ wr.heap.size := Nat.le_trans hB HB.out.size
  rcases HC.out with ⟨Ai, Ap⟩ | ⟨Aa, Ai, Ap⟩
  · obtain ⟨x, r2, Bh⟩ : ∃ x r2, r = x :: r2 := by
     cases r with
     | nil => simp at Ap
     | cons x r2 => exact ⟨x, r2, rfl⟩
    subst Bh
    have AN : x ∈ st := by rw [HS.out]; simp
    obtain ⟨AP, Ao⟩ := AW.out x AN
    obtain ⟨xm, rfl⟩ := Int.eq_ofNat_of_zero_le AP
    have AO : xm < n := by omega
    have Ah : kn.length + 1 ≤ st.length := by rw [HS.out]; simp
    have AR : (xm :: r2 : List Int).reverse = r2.reverse ++ [(xm : Int)] := by simp
    obtain ⟨g, c, Az, AU, Ad⟩ := pS Ak (q := r2.reverse) (x := xm) (by simp)
    obtain ⟨c0, c1, c2, c3, c4, c5, c6⟩ := Ak.cells
    rw [Az] at c4
    obtain ⟨m, hm⟩ : ∃ m, r2.reverse.length = m := ⟨_, rfl⟩
    have Bl : m + 1 ≤ 4096 := by rw [← hm, List.length_reverse]; have := congrArg List.length HS.out; simp at this; omega
    rw [hm] at c4 AU Ad
    have HWi := hide Ak
    have HMv := hide Ab
    have HEov := hide Az
    have HM := hide hm
    have hA := ae wr (.cells #[.int .i64 xm] 3)
    have Af := hide (owns_keep Ab.row fun g hg => hA.block g (aB Ab.row hg))
    have HNext : Hid (first ∉ kn ++ [(xm : Int)] ∧ first ∈ r2 ∨ ∃ Aa, kn ++ [(xm : Int)] = Aa ++ [first] ∧ first ∉ Aa) := hide (by
     by_cases e : (xm : Int) = first
     · exact .inr ⟨kn, by rw [e], Ai⟩
     · refine .inl ⟨?_, ?_⟩
       · simp only [List.mem_append, List.mem_singleton, not_or]
         exact ⟨Ai, fun h => e h.symm⟩
       · rcases List.mem_cons.1 Ap with h | h
         · exact absurd h.symm e
         · exact h)
    have AC : kn = [] ∨ ∃ Aa y, kn = Aa ++ [y] ∧ y ≠ first := by
     rcases List.eq_nil_or_concat kn with h | ⟨Aa, y, h⟩
     · exact .inl h
     · rw [List.concat_eq_append] at h
       exact .inr ⟨Aa, y, h, fun e => Ai (by rw [h, e]; simp)⟩
    obtain ⟨kl, An⟩ : ∃ kl, kn.length = kl := ⟨_, rfl⟩
    have Ac := hide An
    have AD : (kl = 0 ∧ kn = []) ∨ ∃ (pl gm : Nat) (y : Int), kl = pl + 1 ∧ ma = some ⟨gm, 0, none⟩ ∧ wr.cell? ⟨gm, pl, none⟩ = some (.int .i64 y) ∧ (y != first) = true := by
     rcases AC with h | ⟨Aa, y, h, hy⟩
     · exact .inl ⟨by rw [← An, h]; rfl, h⟩
     · have hi : (au kn)[Aa.length]? = some (.int .i64 y) := by rw [h, dD, ← li (l := Aa), List.getElem?_append_right (Nat.le_refl _), Nat.sub_self]; rfl
       obtain ⟨gm, cm, e, h1, _, _⟩ := jk (aS Ab.row (Nat.zero_le _)) hi
       simp only [Value.slice.injEq] at e
       exact .inr ⟨Aa.length, gm, y, by rw [← An, h]; simp, e.1, h1, by simpa using hy⟩
    clear Ak Ab Az hm hA Ai Ap AC AN AP Ao HC AR
    rw [An] at Af Bf Ah ⊢
    clear An
    rcases AD with ⟨rfl, -⟩ | ⟨pl, gm, y, rfl, rfl, AY, Bk⟩
    · go_upto_region 3 with fail
      go_upto_region 4 with (at_builtin; go_must (refine bK _ rfl _ _ 26 rfl B 3 iI _ 1 8 Tryz.underlying26 AM AF AI AG rfl (by decide) _ _ (au kn) rfl Af.out ⟨wr.heap.size, 0, none⟩ 1 [.int .i64 xm] rfl rfl (cell_one_new _ _ _) (by intro u hu; simp at hu; subst hu; rfl) (by unfold maxLen; omega) (by omega) (by simp; omega) ?_); intro g4 Aj w4 Ae Al)
      have Ag : (Value.ownBlock (.slice (ma) 0 mc) = some g4 ∧ (wr.alloc (.cells #[.int .i64 xm] 3)).grownBy w4 (some g4)) ∨ (g4 = wr.heap.size + 1 ∧ (wr.alloc (.cells #[.int .i64 xm] 3)).grownBy w4 none) := by
       rcases Al with h | ⟨h1, h2⟩
       · exact .inl h
       · exact .inr ⟨by simpa using h1, h2⟩
      have As : ∀ k, k < wr.heap.size → Value.ownBlock (.slice (ma) 0 mc) ≠ some k → w4.heap[k]? = wr.heap[k]? := fun k hk hn => fD rfl Ag hk hn
      have Ab := HMv.out
      rw [Ac.out] at Ab
      have W4 := hide (HWi.out.grown Ab AB As)
      have M4 := hide (Mv.grow HWi.out HMv.out (by rw [Ac.out]; exact Ae) (by rw [Ac.out]; exact Ag))
      have Ba : wr.heap.size ≤ w4.heap.size := (dN (Z := fun _ => True) rfl Ag (fun _ _ => trivial)).size
      have Aw : Hid (Below B w w4) := hide (HB.out.trans ((dN (Z := fun k => B ≤ k) rfl Ag fun g e => (Ab.row.lt g e).1).below fun k hk => ⟨by omega, by omega⟩))
      rw [Ac.out] at M4
      clear Al Ag As Ab Ae Af HWi HMv c0 c1 c2 c3 c4 c5 c6 Ad
      obtain ⟨c0, c1, c2, c3, c4, c5, c6⟩ := W4.out.cells
      obtain ⟨g', c', eov', -, Ad⟩ := pS W4.out (q := r2.reverse) (x := xm) (by simp)
      rw [HEov.out] at eov' c4
      rw [HM.out] at Ad
      simp only [HM.out, Value.slice.injEq, Option.some.injEq, Addr.mk.injEq, and_true, true_and] at eov'
      obtain ⟨rfl, rfl⟩ := eov'
      rw [HM.out] at c4
      refine aX (by kernel_rfl) (by kernel_rfl) (by kernel_rfl) (by kernel_rfl) (by kernel_rfl) ?_
      dsimp only [List.dropLast, List.getLast, List.cons_append, List.nil_append]
      repeat (go_big_quiet_step (fail))
      refine wpQuiet_nil ?_
      rintro _ ⟨nq, rfl⟩
      have W5 := hide (W4.out.call (aj w4 nq) (by omega))
      have M5 : Hid (Mv B cb bb ov Z (.slice (some ⟨g4, 0, none⟩) (0 + 1) Aj) (kn ++ [(xm : Int)]) (w4.drewN nq)) := hide ⟨owns_keep M4.out.row fun g hg => (aj w4 nq).block g (aB M4.out.row hg), M4.out.ne⟩
      have At := hide (Aw.out.trans ((aj w4 nq).mono (by omega)))
      have Bb : w4.heap.size ≤ (w4.drewN nq).heap.size := (aj w4 nq).size
      clear W4 M4 Aw c0 c1 c2 c3 c4 c5 c6 Ad
      generalize w4.drewN nq = w5 at *
      have Am : xm < (dJ s.shut kn).length := by rw [iG, HLs.out]; exact AO
      have Ar := W5.out.fs.get (jG Am)
      have Av := W5.out.fs.frz xm
      go_upto_region 5 with fail
      have W6 := hide (W5.out.shut xm)
      have M6 := hide (Mv.set W5.out M5.out (q := sb) (i := xm) (u := .bool true) (.inr rfl) (ov' := ov) rfl)
      have Au := hide (At.out.setCell (p := ⟨sb, xm, none⟩) W5.out.lo.2.2.2 (.bool true))
      have Bc : (w5.setCell ⟨sb, xm, none⟩ (.bool true)).heap.size = w5.heap.size := by simp
      clear Ar Av Am W5 M5 At
      generalize w5.setCell ⟨sb, xm, none⟩ (.bool true) = w6 at *
      obtain ⟨c0, c1, c2, c3, c4, c5, c6⟩ := W6.out.cells
      rw [HEov.out, HM.out] at c4
      have Av := W6.out.bx.frz 4
      have W7 := hide (W6.out.pop (q := r2.reverse) (x := xm) (by simp) (by rw [HEov.out]))
      rw [HM.out] at W7
      have M7 := hide (Mv.set W6.out M6.out (q := W) (i := 4) (u := .slice (some ⟨g, 0, none⟩) m c) (.inl rfl) (ov' := .slice (some ⟨g, 0, none⟩) m c) (by rw [HEov.out]; rfl))
      have Ay := hide (Au.out.setCell (p := ⟨W, 4, none⟩) W6.out.lo.1 (.slice (some ⟨g, 0, none⟩) m c))
      clear W6 M6 Au
      go_wp2_with fail
      go_roundw
      case rel => exact ⟨kn ++ [(xm : Int)], r2, some ⟨g4, 0, none⟩, Aj, by rw [List.length_append, Ac.out]; rfl, by rw [List.length_append, Ac.out]; exact Ah, hide (by rw [HS.out]; simp), HNext, hide ⟨_, kv, Z, by rw [ki]; exact W7.out, by rw [List.length_append, Ac.out]; exact M7.out⟩, Ay⟩
      case measure => simp; omega
    · go_upto_region 3 with fail
      go_upto_region 4 with (at_builtin; go_must (refine bK _ rfl _ _ 26 rfl B 3 iI _ 1 8 Tryz.underlying26 AM AF AI AG rfl (by decide) _ _ (au kn) rfl Af.out ⟨wr.heap.size, 0, none⟩ 1 [.int .i64 xm] rfl rfl (cell_one_new _ _ _) (by intro u hu; simp at hu; subst hu; rfl) (by unfold maxLen; omega) (by omega) (by simp; omega) ?_); intro g4 Aj w4 Ae Al)
      have Ag : (Value.ownBlock (.slice (some ⟨gm, 0, none⟩) (pl + 1) mc) = some g4 ∧ (wr.alloc (.cells #[.int .i64 xm] 3)).grownBy w4 (some g4)) ∨ (g4 = wr.heap.size + 1 ∧ (wr.alloc (.cells #[.int .i64 xm] 3)).grownBy w4 none) := by
       rcases Al with h | ⟨h1, h2⟩
       · exact .inl h
       · exact .inr ⟨by simpa using h1, h2⟩
      have As : ∀ k, k < wr.heap.size → Value.ownBlock (.slice (some ⟨gm, 0, none⟩) (pl + 1) mc) ≠ some k → w4.heap[k]? = wr.heap[k]? := fun k hk hn => fD rfl Ag hk hn
      have Ab := HMv.out
      rw [Ac.out] at Ab
      have W4 := hide (HWi.out.grown Ab AB As)
      have M4 := hide (Mv.grow HWi.out HMv.out (by rw [Ac.out]; exact Ae) (by rw [Ac.out]; exact Ag))
      have Ba : wr.heap.size ≤ w4.heap.size := (dN (Z := fun _ => True) rfl Ag (fun _ _ => trivial)).size
      have Aw : Hid (Below B w w4) := hide (HB.out.trans ((dN (Z := fun k => B ≤ k) rfl Ag fun g e => (Ab.row.lt g e).1).below fun k hk => ⟨by omega, by omega⟩))
      rw [Ac.out] at M4
      clear Al Ag As Ab Ae Af HWi HMv c0 c1 c2 c3 c4 c5 c6 Ad
      obtain ⟨c0, c1, c2, c3, c4, c5, c6⟩ := W4.out.cells
      obtain ⟨g', c', eov', -, Ad⟩ := pS W4.out (q := r2.reverse) (x := xm) (by simp)
      rw [HEov.out] at eov' c4
      rw [HM.out] at Ad
      simp only [HM.out, Value.slice.injEq, Option.some.injEq, Addr.mk.injEq, and_true, true_and] at eov'
      obtain ⟨rfl, rfl⟩ := eov'
      rw [HM.out] at c4
      refine aX (by kernel_rfl) (by kernel_rfl) (by kernel_rfl) (by kernel_rfl) (by kernel_rfl) ?_
      dsimp only [List.dropLast, List.getLast, List.cons_append, List.nil_append]
      repeat (go_big_quiet_step (fail))
      refine wpQuiet_nil ?_
      rintro _ ⟨nq, rfl⟩
      have W5 := hide (W4.out.call (aj w4 nq) (by omega))
      have M5 : Hid (Mv B cb bb ov Z (.slice (some ⟨g4, 0, none⟩) ((pl + 1) + 1) Aj) (kn ++ [(xm : Int)]) (w4.drewN nq)) := hide ⟨owns_keep M4.out.row fun g hg => (aj w4 nq).block g (aB M4.out.row hg), M4.out.ne⟩
      have At := hide (Aw.out.trans ((aj w4 nq).mono (by omega)))
      have Bb : w4.heap.size ≤ (w4.drewN nq).heap.size := (aj w4 nq).size
      clear W4 M4 Aw c0 c1 c2 c3 c4 c5 c6 Ad
      generalize w4.drewN nq = w5 at *
      have Am : xm < (dJ s.shut kn).length := by rw [iG, HLs.out]; exact AO
      have Ar := W5.out.fs.get (jG Am)
      have Av := W5.out.fs.frz xm
      go_upto_region 5 with fail
      have W6 := hide (W5.out.shut xm)
      have M6 := hide (Mv.set W5.out M5.out (q := sb) (i := xm) (u := .bool true) (.inr rfl) (ov' := ov) rfl)
      have Au := hide (At.out.setCell (p := ⟨sb, xm, none⟩) W5.out.lo.2.2.2 (.bool true))
      have Bc : (w5.setCell ⟨sb, xm, none⟩ (.bool true)).heap.size = w5.heap.size := by simp
      clear Ar Av Am W5 M5 At
      generalize w5.setCell ⟨sb, xm, none⟩ (.bool true) = w6 at *
      obtain ⟨c0, c1, c2, c3, c4, c5, c6⟩ := W6.out.cells
      rw [HEov.out, HM.out] at c4
      have Av := W6.out.bx.frz 4
      have W7 := hide (W6.out.pop (q := r2.reverse) (x := xm) (by simp) (by rw [HEov.out]))
      rw [HM.out] at W7
      have M7 := hide (Mv.set W6.out M6.out (q := W) (i := 4) (u := .slice (some ⟨g, 0, none⟩) m c) (.inl rfl) (ov' := .slice (some ⟨g, 0, none⟩) m c) (by rw [HEov.out]; rfl))
      have Ay := hide (Au.out.setCell (p := ⟨W, 4, none⟩) W6.out.lo.1 (.slice (some ⟨g, 0, none⟩) m c))
      clear W6 M6 Au
      go_wp2_with fail
      go_roundw
      case rel => exact ⟨kn ++ [(xm : Int)], r2, some ⟨g4, 0, none⟩, Aj, by rw [List.length_append, Ac.out]; rfl, by rw [List.length_append, Ac.out]; exact Ah, hide (by rw [HS.out]; simp), HNext, hide ⟨_, kv, Z, by rw [ki]; exact W7.out, by rw [List.length_append, Ac.out]; exact M7.out⟩, Ay⟩
      case measure => simp; omega
  · have Ah : kn.length = Aa.length + 1 := by rw [Ai]; simp
    have hi : (au kn)[Aa.length]? = some (.int .i64 first) := by rw [Ai, dD, ← li (l := Aa), List.getElem?_append_right (Nat.le_refl _), Nat.sub_self]; rfl
    obtain ⟨gm, cm, e, AY, _, _⟩ := jk (aS Ab.row (Nat.zero_le _)) hi
    simp only [Value.slice.injEq] at e
    obtain ⟨rfl, -, rfl⟩ := e
    have AA : dl first s.opn.reverse = (kn, r) := by rw [Bi.out, HS.out, Ai, List.append_assoc]; exact qk Ap
    have HP := hide AA
    obtain ⟨c0, c1, c2, c3, c4, c5, c6⟩ := Ak.cells
    obtain ⟨xs, Ao, AL⟩ := Ak.rk
    obtain ⟨ka, kc, Ax⟩ := bG Ao
    obtain ⟨K, hK⟩ : ∃ K, s.knots.length = K := ⟨_, rfl⟩
    have hA := ae wr (.cells #[.slice (some ⟨gm, 0, none⟩) (Aa.length + 1) mc] 26)
    have Af := hide (owns_keep Ao fun g hg => hA.block g (aB Ao hg))
    have HWi := hide Ak
    have HMv := hide Ab
    have AS := hide Ao
    have Bg := hide AL
    have AT := hide hK
    have Ac := hide Ah
    have HEkv := hide Ax
    simp only [] at Ax Af
    rw [hK] at Ax Af Bd
    rw [Ah]
    rw [Ax] at c6 Af
    clear Ak Ab Ao AL hA hi AA hK Ai Ap HC Ah HS Ax
    go_upto_region 6 with fail
    go_wp2_with (at_builtin; go_must (refine bK _ rfl _ _ 22 rfl B 26 iL _ 1 24 Tryz.underlying22 AZ Be AX AV rfl (by decide) _ _ xs rfl Af.out ⟨wr.heap.size, 0, none⟩ 1 [.slice (some ⟨gm, 0, none⟩) (Aa.length + 1) mc] rfl rfl (cell_one_new _ _ _) (by intro u hu; simp at hu; subst hu; rfl) (by unfold maxLen; omega) (by omega) (by simp; omega) ?_); intro g4 Aj w4 Ae Al; have HFin := hide (ya HWi.out (by rw [← Ac.out]; exact HMv.out) AB (by omega) AS.out Bg.out AT.out HEkv.out Ae (by rcases Al with h | ⟨h1, h2⟩; exact .inl h; exact .inr ⟨by simpa using h1, h2⟩)); clear Ae Al; obtain ⟨Bm, Bn, AE, AJ⟩ := HFin.out; have HFc := hide AE; have HFd := hide AJ; clear AE AJ HFin)
    go_end0
    refine ⟨rfl, ?_, HB.out.trans HFd.out⟩
    unfold jQ
    rw [HP.out]
    exact ⟨ov, _, _, HFc.out⟩
end Go.Proofs.YtmlhcncagdfjfaaGreat
