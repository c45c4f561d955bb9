/- The reader: foes. -/
import Derived.Test.YtdmnoeooljofcaaRdm
namespace Go.Proofs.Ytdmnoeooljofcaa
open Go.RowKit

/-- A row of rows that grow, each by itself; none of them is x0. -/
structure Fo (B g : Nat) (x0 : Option Nat) (F : List (List Int)) (vs : List Value) (w : World) : Prop where
  fx : Fx g 38 vs w
  len : vs.length = F.length
  row : ∀ (i : Nat) l, F[i]? = some l → ∃ v, vs[i]? = some v ∧ w.ownsRow B 3 1 v l.length (ints l)
  apart : ∀ (i j : Nat) v u q, vs[i]? = some v → vs[j]? = some u → v.ownBlock = some q → u.ownBlock = some q → i = j
  off : ∀ (i : Nat) v q, vs[i]? = some v → v.ownBlock = some q → x0 ≠ some q
  lo : B ≤ g
  xg : x0 ≠ some g
section
variable {B g : Nat} {x0 : Option Nat} {F : List (List Int)} {vs : List Value} {w w' : World}
theorem Fo.get (h : Fo B g x0 F vs w) {i : Nat} {v : Value} (hi : vs[i]? = some v) : ∃ l, F[i]? = some l ∧ w.ownsRow B 3 1 v l.length (ints l) := by
  have hl : i < F.length := by rw [← h.len]; exact (List.getElem?_eq_some_iff.1 hi).1
  obtain ⟨l, hl2⟩ := get_at hl
  obtain ⟨v', h1, h2⟩ := h.row i l hl2
  rw [hi] at h1
  cases h1
  exact ⟨l, hl2, h2⟩
theorem Fo.keep (h : Fo B g x0 F vs w) (hb : ∀ k, B ≤ k → k < w.heap.size → w'.heap[k]? = w.heap[k]?) : Fo B g x0 F vs w' := by
  refine ⟨h.fx.keep (hb _ h.lo h.fx.lt), h.len, fun i l hl => ?_, h.apart, h.off, h.lo, h.xg⟩
  obtain ⟨v, h1, h2⟩ := h.row i l hl
  exact ⟨v, h1, owns_keep h2 fun q hq => hb q (h2.lt q hq).1 (h2.lt q hq).2⟩
theorem Fo.fresh (h : Fo B g x0 F vs w) {q : Option Nat} (hq : ∀ k, q = some k → w.heap.size ≤ k) : Fo B g q F vs w := ⟨h.fx, h.len, h.row, h.apart, fun i v k hi hk e => by
  obtain ⟨l, _, h2⟩ := h.get hi
  have := (h2.lt k hk).2
  have := hq k e
  omega, h.lo, fun e => by have := hq g e; have := h.fx.lt; omega⟩
theorem Fo.push (h : Fo B g x0 F vs w) {i : Nat} {l : List Int} (hi : F[i]? = some l) (hx0 : ∀ q, x0 = some q → q < w.heap.size) : ∃ a c, w.cell? ⟨g, i, none⟩ = some (.slice a l.length c) ∧ w.ownsRow B 3 1 (.slice a l.length c) l.length (ints l) ∧
    ∀ (x : Int) (g4 cap4 : Nat) (ob : Obj) (w4 : World), w4.ownsRow B 3 1 (.slice (some ⟨g4, 0, none⟩) (l.length + 1) cap4) (l.length + 1) (ints l ++ [.int .i64 x]) → ((Value.ownBlock (.slice a l.length c) = some g4 ∧ (w.alloc ob).grownBy w4 (some g4)) ∨ (g4 = w.heap.size + 1 ∧ (w.alloc ob).grownBy w4 none)) →
      w4.cell? ⟨g, i, none⟩ = some (.slice a l.length c) ∧ w4.frozen? ⟨g, i, none⟩ = false ∧ Fo B g x0 (F.modify i (· ++ [x])) (vs.set i (.slice (some ⟨g4, 0, none⟩) (l.length + 1) cap4)) (w4.setCell ⟨g, i, none⟩ (.slice (some ⟨g4, 0, none⟩) (l.length + 1) cap4)) ∧ Fr (fun k => B ≤ k ∧ x0 ≠ some k) w (w4.setCell ⟨g, i, none⟩ (.slice (some ⟨g4, 0, none⟩) (l.length + 1) cap4)) := by
  obtain ⟨v, h1, h2⟩ := h.row i l hi
  obtain ⟨a, c, rfl⟩ := owns_slice h2
  refine ⟨a, c, h.fx.get h1, h2, fun x g4 cap4 ob w4 hown hg => ?_⟩
  have hvg : Value.ownBlock (.slice a l.length c) ≠ some g := own_fx h2 h.fx (by decide)
  have ho : ∀ k, k < w.heap.size → Value.ownBlock (.slice a l.length c) ≠ some k → w4.heap[k]? = w.heap[k]? := fun k hk hn => grown_old rfl hg hk hn
  have hfx := h.fx.keep (ho _ h.fx.lt hvg)
  have hlt : i < vs.length := (List.getElem?_eq_some_iff.1 h1).1
  have hg4 : ∀ (j : Nat) u, j ≠ i → vs[j]? = some u → u.ownBlock ≠ some g4 := fun j u hji hu e => by
    obtain ⟨lu, _, hu2⟩ := h.get hu
    rcases hg with ⟨e1, _⟩ | ⟨e1, _⟩
    · exact hji (h.apart j i u _ g4 hu h1 e e1)
    · have := (hu2.lt g4 e).2; omega
  have hg4x : x0 ≠ some g4 := fun e => by
    rcases hg with ⟨e1, _⟩ | ⟨e1, _⟩
    · exact h.off i _ g4 h1 e1 e
    · have := hx0 g4 e; omega
  have hgg4 : g4 ≠ g := fun e => own_fx hown hfx (by decide) (by simp [Value.ownBlock, e])
  refine ⟨hfx.get h1, hfx.frz i, ⟨hfx.set i _, by rw [List.length_set, List.length_modify]; exact h.len, fun j lj hj => ?_, fun j k u v q hj hk hu hv => ?_, fun j u q hj hu => ?_, h.lo, h.xg⟩, ?_⟩
  · rw [List.getElem?_modify] at hj
    by_cases e : i = j
    · subst e
      rw [hi] at hj
      simp at hj
      subst hj
      refine ⟨_, by rw [List.getElem?_set_self hlt], ?_⟩
      rw [List.length_append, ints_snoc]
      exact owns_keep hown fun q hq => other_set fun (e2 : q = g) => hgg4 (by simp [Value.ownBlock] at hq; omega)
    · simp only [if_neg e] at hj
      have hj' : F[j]? = some lj := by cases hF : F[j]? with
        | none => rw [hF] at hj; cases hj
        | some y => rw [hF] at hj; simpa using hj
      obtain ⟨u, hu1, hu2⟩ := h.row j lj hj'
      refine ⟨u, by rw [List.getElem?_set_ne e]; exact hu1, owns_keep hu2 fun q hq => ?_⟩
      rw [other_set fun (e2 : q = g) => own_fx hu2 h.fx (by decide) (e2 ▸ hq)]
      exact ho q (hu2.lt q hq).2 fun e2 => e (h.apart i j _ u q h1 hu1 e2 hq)
  · by_cases ej : i = j
    · subst ej
      rw [List.getElem?_set_self hlt] at hj
      cases hj
      have eq4 : g4 = q := by simpa [Value.ownBlock] using hu
      subst eq4
      by_cases ek : i = k
      · exact ek
      · rw [List.getElem?_set_ne ek] at hk
        exact absurd hv (hg4 k v (fun e => ek e.symm) hk)
    · rw [List.getElem?_set_ne ej] at hj
      by_cases ek : i = k
      · subst ek
        rw [List.getElem?_set_self hlt] at hk
        cases hk
        have eq4 : g4 = q := by simpa [Value.ownBlock] using hv
        subst eq4
        exact absurd hu (hg4 j u (fun e => ej e.symm) hj)
      · rw [List.getElem?_set_ne ek] at hk
        exact h.apart j k u v q hj hk hu hv
  · by_cases ej : i = j
    · subst ej
      rw [List.getElem?_set_self hlt] at hj
      cases hj
      have eq4 : g4 = q := by simpa [Value.ownBlock] using hu
      subst eq4
      exact hg4x
    · rw [List.getElem?_set_ne ej] at hj
      exact h.off j u q hj hu
  · have hf1 : Fr (fun k => B ≤ k ∧ x0 ≠ some k) w w4 := by
      have h1' : Fr (fun k => B ≤ k ∧ x0 ≠ some k) w (w.alloc ob) := .of_below (below_new w ob)
      rcases hg with ⟨e1, h3⟩ | ⟨_, h3⟩
      · exact h1'.trans (.of_grown h3 fun k e => by cases e; exact ⟨(h2.lt g4 e1).1, hg4x⟩)
      · exact h1'.trans (.of_grown h3 fun k e => by cases e)
    refine hf1.trans ⟨rfl, rfl, rfl, by simp, fun k _ hn => other_set fun e => ?_⟩
    subst e
    exact hn ⟨h.lo, h.xg⟩
end
def cLZ (Z : Nat → Prop) (w : World) (a : List Int) (xs : List Value) : Prop := ∃ v, xs = [v] ∧ RZ Z 1 cI w a v
def cRZ (Z : Nat → Prop) (w : World) (r : RuleM) (xs : List Value) : Prop := ∃ v, xs = [.int .i64 r.kind, .int .i64 r.head, v] ∧ RZ Z 1 cI w r.body v
theorem cLZ.keep {Z Z' : Nat → Prop} {w w' : World} {a : List Int} {xs : List Value} (ag : Ag Z Z' w w') (h : cLZ Z w a xs) : cLZ Z' w' a xs := by obtain ⟨v, h1, h2⟩ := h; exact ⟨v, h1, RZ.keep h2 ag fun _ _ h => h⟩
theorem cRZ.keep {Z Z' : Nat → Prop} {w w' : World} {a : RuleM} {xs : List Value} (ag : Ag Z Z' w w') (h : cRZ Z w a xs) : cRZ Z' w' a xs := by obtain ⟨v, h1, h2⟩ := h; exact ⟨v, h1, RZ.keep h2 ag fun _ _ h => h⟩
theorem rz_ints {Z : Nat → Prop} {w : World} {B : Nat} {v : Value} {l : List Int} (h : w.ownsRow B 3 1 v l.length (ints l)) (hz : ∀ g, v.ownBlock = some g → Z g) (hl : l.length ≤ 140737488351232) : RZ Z 1 cI w l v := RZ.of_owns h hz hl fun i x hi => by
  unfold cI ints
  rw [Nat.mul_one, ← List.map_drop, drop_at hi]
  rfl
/-- New blocks, from B on. -/
abbrev Fr0 (B : Nat) (w : World) (g : Nat) : Prop := B ≤ g ∧ g < w.heap.size
def vLs (B : Nat) (w : World) (F : List (List Int)) (v : Value) : Prop := RZ (Fr0 B w) 1 (cLZ (Fr0 B w)) w F v
def vRs (B : Nat) (w : World) (F : List RuleM) (v : Value) : Prop := RZ (Fr0 B w) 3 (cRZ (Fr0 B w)) w F v
theorem Fo.done {B g n : Nat} {x0 : Option Nat} {F : List (List Int)} {vs : List Value} {w : World} (h : Fo B g x0 F vs w) (hn : F.length = n) (hl : n ≤ 4096) (hb : ∀ (i : Nat) l, F[i]? = some l → l.length ≤ 1000000) : vLs B w F (.slice (some ⟨g, 0, none⟩) n n) := by
  subst hn
  refine ⟨_, _, rfl, Nat.le_refl _, by omega, fun i l hi => ?_⟩
  obtain ⟨v, h1, h2⟩ := h.row i l hi
  refine ⟨g, 0, [v], rfl, ⟨h.lo, h.fx.lt⟩, rfl, fun j u hu => ?_, v, rfl, rz_ints h2 (fun q hq => h2.lt q hq) (by have := hb i l hi; omega)⟩
  match j, hu with
  | 0, hu => cases hu; rw [Nat.mul_one, Nat.add_zero, Nat.zero_add]; exact h.fx.get h1
theorem give_step {i : Nat} {F : List (List Int)} {l : List Int} {j : Nat} {f : Int} (h : l[j]? = some f) : giveM i F (l.drop j) = giveM i ((F.modify i (· ++ [f])).modify f.toNat (· ++ [(i : Int)])) (l.drop (j + 1)) := by rw [drop_at h]; rfl
theorem mod_len {F : List (List Int)} {i b : Nat} {x : Int} (h : ∀ (j : Nat) l, F[j]? = some l → l.length ≤ b) : ∀ (j : Nat) l, (F.modify i (· ++ [x]))[j]? = some l → l.length ≤ b + 1 := fun j l hj => by
  rw [List.getElem?_modify] at hj
  cases hF : F[j]? with
  | none => rw [hF] at hj; cases hj
  | some y =>
    rw [hF] at hj
    have := h j y hF
    simp at hj
    subst hj
    split
    · simp; omega
    · omega
theorem bytes_of {R : Nat} {ba : Option Addr} {bc : Nat} {zs : List Int} {p : Nat} {w : World} (h : Rd R ba bc zs p w) : ∀ z ∈ zs, 0 ≤ z ∧ z ≤ 255 := fun z hm => by
  obtain ⟨i, hi, rfl⟩ := List.mem_iff_getElem.1 hm
  have := h.row.byte i
  rw [List.getElem?_eq_getElem hi] at this
  exact this
set_option maxRecDepth 100000 in
set_option maxHeartbeats 12800000 in
theorem foes_any {R : Nat} {ba : Option Addr} {bc : Nat} {zs : List Int} {p : Nat} {w : World} (h : Rd R ba bc zs p w) {n : Nat} (hn : n ≤ 4096) :
    Calls Try.prog 40 #[ptr R, .int .i64 n] w fun e w' => Eo R ba bc zs w (fun w' F v => F.length = n ∧ vLs w.heap.size w' F v) (foesM zs n n 0 (List.replicate n []) p) e w' := by
  obtain ⟨iI, hiI, zI0, zI1, zI2⟩ := info_parts infoI
  obtain ⟨iL, hiL, zL0, zL1, zL2⟩ := info_parts infoL
  obtain ⟨o, ho⟩ : ∃ o, foesM zs n n 0 (List.replicate n []) p = o := ⟨_, rfl⟩
  rw [ho]
  have HO : Hid (foesM zs n (n - 0) 0 (List.replicate n []) p = o) := hide ho
  have hR := h.lt
  have HBy := hide (bytes_of h)
  have hA := below_new w (.cells (Array.replicate n (.slice none 0 0)) 38)
  have HD0 := hide (h.below hA)
  have HF0 : Hid (Fr (Zr R w) w (w.alloc (.cells (Array.replicate n (.slice none 0 0)) 38))) := hide (.of_below hA)
  have HFo0 : Hid (Fo w.heap.size w.heap.size none (List.replicate n []) (List.replicate n (.slice none 0 0)) (w.alloc (.cells (Array.replicate n (.slice none 0 0)) 38))) := hide (by
    refine ⟨?_, by simp, fun i l hl => ?_, fun i j v u q hv hu e => ?_, fun i v q hv e => ?_, Nat.le_refl _, by simp⟩
    · unfold Fx
      rw [heap_alloc_new, List.toArray_replicate]
    · rw [List.getElem?_replicate] at hl
      split at hl
      · rename_i hin
        cases hl
        exact ⟨.slice none 0 0, by rw [List.getElem?_replicate, if_pos hin], ⟨rfl, .inl ⟨rfl, rfl⟩⟩⟩
      · cases hl
    · rw [List.getElem?_replicate] at hv
      split at hv
      · cases hv; cases e
      · cases hv
    · rw [List.getElem?_replicate] at hv
      split at hv
      · cases hv; cases e
      · cases hv)
  clear h ho hA
  go_enter Try.func40, Try.ntmps40
  go_upto_region 2 with (at_make; go_must (refine wpList_make_fix _ rfl _ _ 24 rfl 38 iL _ Try.underlying24 hiL zL0 zL1 rfl _ _ n rfl rfl rfl rfl (by rw [zL2]; omega) (by unfold maxLen; omega) ?_))
  generalize w.alloc (.cells (Array.replicate n (.slice none 0 0)) 38) = W at *
  go_wp2_with fail
  go_loopw [12] (fun x wr => ∃ (k : Nat) (F : List (List Int)) (vs : List Value) (q : Nat), k ≤ n ∧ x = .int .i64 k ∧ Hid (Fo w.heap.size w.heap.size none F vs wr) ∧ Hid (F.length = n) ∧ Hid (∀ (i : Nat) l, F[i]? = some l → l.length ≤ 128 * k) ∧ Hid (Rd R ba bc zs q wr) ∧ Hid (Fr (Zr R w) w wr) ∧ Hid (foesM zs n (n - k) k F q = o)) (fun x _ => n - (intOf x).toNat)
  case atStart => exact ⟨0, _, _, p, by omega, rfl, HFo0, hide (by simp), hide fun i l hl => by (rw [List.getElem?_replicate] at hl; split at hl; cases hl; simp; cases hl), HD0, HF0, HO⟩
  case round =>
    clear HFo0 HD0 HF0 HO
    obtain ⟨k, F, vs, q, hk, rfl, HFo, HLF, HLn, HD, HF, HK⟩ := hrel
    have hwr : w.heap.size ≤ wr.heap.size := HF.out.size
    by_cases hlt : k < n
    · have CL := hide (list_any HD.out (most := 64) (least := k + 1) (below := n) (other := 121) (by omega) (by omega) (by omega) (by omega) (by omega) (by omega))
      have HS : Hid ((listM zs 64 (k + 1) n 121 q >>= fun x => foesM zs n (n - (k + 1)) (k + 1) (giveM k F x.1) x.2) = o) := hide (by have := HK.out; rw [show n - k = (n - (k + 1)) + 1 by omega, foesM] at this; exact this)
      clear HK
      go_wp2_with fail
      refine CL.out.mono ?_
      intro e w2 hE
      rcases hE.split with ⟨l, q2, v, e1, rfl, e2, e3, e4⟩ | ⟨c2, p2, e1, rfl, e4⟩
      rotate_left
      · exact ⟨rfl, Eo.no (bind_no HS.out e1) (fr_r (fr_of_r HF.out e4))⟩
      obtain ⟨la, lc, rfl⟩ := owns_slice e2
      obtain ⟨-, hl64, hri⟩ := (list_iff HBy.out (by decide) (by omega) (by omega)).1 e1
      have HMem : Hid (∀ f ∈ l, 0 ≤ f ∧ f < (n : Int)) := hide fun f hf => by have := (rises_iff.1 hri).1 f hf; omega
      have HN := hide (bind_ok HS.out e1)
      have hl4 : l.length ≤ 64 := by omega
      have HD2 := hide e3
      have HF2 := hide (fr_of_r HF.out e4)
      have HFo2 := hide ((HFo.out.fresh (q := Value.ownBlock (.slice la l.length lc)) fun j e => (e2.lt j e).1).keep fun j hj hjl => e4.block j hjl (by omega))
      have HRow2 : Hid (w2.ownsRow w.heap.size 3 1 (.slice la l.length lc) l.length (ints l)) := hide (owns_down e2 hwr)
      clear hE e1 e2 e3 e4 HS CL HFo HD HF hri hl64
      obtain ⟨G, hG⟩ : ∃ G, giveM k F l = G := ⟨_, rfl⟩
      have HG0 : Hid (giveM k F (l.drop 0) = G) := hide (by rw [List.drop_zero]; exact hG)
      simp only [hG] at HN
      have hR2 : w.heap.size ≤ w2.heap.size := HF2.out.size
      clear hG
      go_wp2_with fail
      go_loopw [21] (fun x ws => ∃ (j : Nat) (F' : List (List Int)) (vs' : List Value), j ≤ l.length ∧ x = .int .i64 j ∧ Hid (Fo w.heap.size w.heap.size (Value.ownBlock (.slice la l.length lc)) F' vs' ws) ∧ Hid (F'.length = n) ∧ Hid (∀ (i : Nat) l', F'[i]? = some l' → l'.length ≤ 128 * k + 2 * j) ∧ Hid (Rd R ba bc zs q2 ws) ∧ Hid (Fr (Zr R w) w ws) ∧ Hid (ws.ownsRow w.heap.size 3 1 (.slice la l.length lc) l.length (ints l)) ∧ Hid (giveM k F' (l.drop j) = G)) (fun x _ => l.length - (intOf x).toNat)
      case atStart => exact ⟨0, F, vs, by omega, rfl, HFo2, HLF, hide fun i l' hl' => by (have := HLn.out i l' hl'; omega), HD2, HF2, HRow2, HG0⟩
      case round =>
        clear HFo2 HLF HLn HD2 HF2 HRow2 HG0
        rename World => ws
        obtain ⟨j, F', vs', hj, rfl, HFo, HLF, HLn, HD, HF, HRow, HK⟩ := hrel
        have hws : w.heap.size ≤ ws.heap.size := HF.out.size
        by_cases hlj : j < l.length
        · obtain ⟨f, hf⟩ := get_at hlj
          obtain ⟨hf0, hf1⟩ := HMem.out f (List.mem_of_getElem? hf)
          obtain ⟨m, rfl⟩ := Int.eq_ofNat_of_zero_le hf0
          obtain ⟨gl, ol, rfl, kf⟩ := (owns_at1 HRow.out).get hf
          have HK2 : Hid (giveM k ((F'.modify k (· ++ [(m : Int)])).modify m (· ++ [(k : Int)])) (l.drop (j + 1)) = G) := hide (by have := HK.out; rw [give_step hf] at this; simpa using this)
          obtain ⟨r1, hr1⟩ := get_at (l := F') (i := k) (by rw [HLF.out]; exact hlt)
          have hb1 := HLn.out k r1 hr1
          have hx0 : ∀ q, Value.ownBlock (.slice (some ⟨gl, ol, none⟩) l.length lc) = some q → q < ws.heap.size := fun q e => (HRow.out.lt q e).2
          obtain ⟨a1, c1, kc1, row1, P1⟩ := HFo.out.push hr1 hx0
          clear hf hf0 HK hx0 hr1
          have HP1 := hide P1
          clear P1
          have hA1 := below_new ws (.cells #[.int .i64 m] 3)
          have HROW1 := hide (owns_keep row1 fun g hg => hA1.block g (owns_lt row1 hg))
          clear row1 hA1
          go_upto_region 9 with (at_builtin; go_must (refine wpList_append_two _ rfl _ _ 38 rfl w.heap.size 3 iI _ 1 8 Try.underlying38 hiI zI0 zI1 zI2 rfl (by decide) _ _ (ints r1) rfl HROW1.out ⟨ws.heap.size, 0, none⟩ 1 [.int .i64 m] rfl rfl (cell_one_new _ _ _) (by intro u hu; simp at hu; subst hu; rfl) (by unfold maxLen; omega) (by omega) (by simp; omega) ?_); intro g1 cap1 v1 hown hg; obtain ⟨s1a, s1b, s1c, s1d⟩ := HP1.out _ g1 cap1 _ v1 hown (by rcases hg with h | ⟨h1, h2⟩; exact .inl h; exact .inr ⟨by simpa using h1, h2⟩); have HC1 := hide s1c; have HE1 := hide s1d; clear hown hg s1c s1d)
          have HRow5 := hide (owns_keep HRow.out fun q e => HE1.out.block q (HRow.out.lt q e).2 fun hn => hn.2 e)
          have HD5 := hide (HD.out.fr HE1.out fun i hi hn => by omega)
          have HF5 := hide (HF.out.trans (HE1.out.mono fun i _ hn => .inr hn.1))
          have hw5 : w.heap.size ≤ (v1.setCell ⟨w.heap.size, k, none⟩ (.slice (some ⟨g1, 0, none⟩) (r1.length + 1) cap1)).heap.size := HF5.out.size
          clear HE1 HFo HD HF HRow s1a s1b kc1 HROW1 HP1 kf
          generalize v1.setCell ⟨w.heap.size, k, none⟩ (.slice (some ⟨g1, 0, none⟩) (r1.length + 1) cap1) = w5 at *
          obtain ⟨r2, hr2⟩ := get_at (l := F'.modify k (· ++ [(m : Int)])) (i := m) (by rw [List.length_modify, HLF.out]; omega)
          have hb2 := mod_len HLn.out m r2 hr2
          have hx5 : ∀ q, Value.ownBlock (.slice (some ⟨gl, ol, none⟩) l.length lc) = some q → q < w5.heap.size := fun q e => (HRow5.out.lt q e).2
          obtain ⟨a2, c2, kc2, row2, P2⟩ := HC1.out.push hr2 hx5
          have hmn : m < n := by omega
          clear hx5 hr2
          have HP2 := hide P2
          clear P2
          have hA2 := below_new w5 (.cells #[.int .i64 k] 3)
          have HROW2 := hide (owns_keep row2 fun g hg => hA2.block g (owns_lt row2 hg))
          clear row2 hA2
          go_upto_region 10 with (at_builtin; go_must (refine wpList_append_two _ rfl _ _ 38 rfl w.heap.size 3 iI _ 1 8 Try.underlying38 hiI zI0 zI1 zI2 rfl (by decide) _ _ (ints r2) rfl HROW2.out ⟨w5.heap.size, 0, none⟩ 1 [.int .i64 k] rfl rfl (cell_one_new _ _ _) (by intro u hu; simp at hu; subst hu; rfl) (by unfold maxLen; omega) (by omega) (by simp; omega) ?_); intro g2 cap2 v2 hown hg; obtain ⟨s2a, s2b, s2c, s2d⟩ := HP2.out _ g2 cap2 _ v2 hown (by rcases hg with h | ⟨h1, h2⟩; exact .inl h; exact .inr ⟨by simpa using h1, h2⟩); have HC2 := hide s2c; have HE2 := hide s2d; clear hown hg s2c s2d)
          have HRow6 := hide (owns_keep HRow5.out fun q e => HE2.out.block q (HRow5.out.lt q e).2 fun hn => hn.2 e)
          have HD6 := hide (HD5.out.fr HE2.out fun i hi hn => by omega)
          have HF6 := hide (HF5.out.trans (HE2.out.mono fun i _ hn => .inr hn.1))
          go_wp2_with fail
          go_roundw
          case rel => exact ⟨j + 1, _, _, by omega, by go_num, HC2, hide (by rw [List.length_modify, List.length_modify]; exact HLF.out), hide fun i l' hl' => by (have := mod_len (mod_len HLn.out) i l' hl'; omega), HD6, HF6, HRow6, HK2⟩
          case measure => simp [intOf]; omega
        · have HE : Hid (F' = G) := hide (by have := HK.out; rw [drop_end (by omega)] at this; exact this)
          have HFo9 := hide (HFo.out.fresh (q := none) fun q e => by cases e)
          clear HK HFo
          go_wp2_with fail
          go_roundw
          case rel => exact ⟨k + 1, F', vs', q2, by omega, by go_num, HFo9, HLF, hide fun i l' hl' => by (have := HLn.out i l' hl'; omega), HD, HF, hide (by rw [HE.out]; exact HN.out)⟩
          case measure => simp [intOf]; omega
    · have HN : Hid (o = .ok (F, q)) := hide (by have := HK.out; rw [show n - k = 0 by omega] at this; exact this.symm)
      clear HK
      go_wp2_with fail
      go_ret
      exact Eo.yes HN.out ⟨HLF.out, HFo.out.done HLF.out hn fun i l hl => by have := HLn.out i l hl; omega⟩ HD.out (fr_r HF.out)
end Go.Proofs.Ytdmnoeooljofcaa
