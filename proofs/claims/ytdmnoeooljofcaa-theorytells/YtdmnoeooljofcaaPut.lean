/- put, putList, above. -/
import Derived.Test.YtdmnoeooljofcaaCheck
import Derived.Test.YtdmnoeooljofcaaOUint
namespace Go.Proofs.Ytdmnoeooljofcaa
open Go.RowKit

def byts (l : List Int) : List Value := l.map (Value.int .u8)
theorem byts_app {a b : List Int} : byts (a ++ b) = byts a ++ byts b := by unfold byts; simp
theorem byts_len {a : List Int} : (byts a).length = a.length := by unfold byts; simp
theorem src_own {w : World} {b : Nat} {a : Option Addr} {n c : Nat} {zs : List Int} (h : w.ownsRow b 5 1 (.slice a n c) n (byts zs)) : Src Try.prog 1 22 (.slice a n c) n (byts zs) w := by
  have hl : zs.length = n := by have := h.1; rw [byts_len] at this; omega
  by_cases hn : n = 0
  · subst hn
    have : zs = [] := List.eq_nil_of_length_eq_zero hl
    subst this
    cases a with
    | none => exact Src.ofNil w Try.underlying22 c
    | some a => exact Src.ofSlice w Try.underlying22 _ 0 c [] rfl (fun j u hu => by simp at hu) (by simp)
  · obtain ⟨g, e, _, _, hc⟩ := own_news h hn
    subst e
    refine Src.ofSlice w Try.underlying22 _ n c (byts zs) (by rw [byts_len]; omega) hc fun u hu => ?_
    obtain ⟨x, _, rfl⟩ := List.mem_map.1 hu
    rfl
theorem numB_len (z : Int) : (numB z).length ≤ 10 := uintB_len 9 z
/-- How a call ends that tells more bytes. -/
def Told (B : Nat) (v : Value) (zs : List Int) (w : World) (e : Ending) (w' : World) : Prop := ∃ a c, e = .returned (.slice a zs.length c) ∧ w'.ownsRow B 5 1 (.slice a zs.length c) zs.length (byts zs) ∧ Fr (fun k => v.ownBlock = some k) w w' ∧ ∀ g, Value.ownBlock (.slice a zs.length c) = some g → v.ownBlock = some g ∨ w.heap.size ≤ g
theorem grown_row_fr {w w1 w2 : World} {v : Value} (hb : Below w.heap.size w w1) (hg : w1.grownBy w2 v.ownBlock) : Fr (fun k => v.ownBlock = some k) w w2 := (Fr.of_below hb).trans (.of_grown hg fun _ e => e)
set_option maxRecDepth 100000 in
set_option maxHeartbeats 6400000 in
theorem put_any {w : World} {B : Nat} {v : Value} {zs : List Int} (h : w.ownsRow B 5 1 v zs.length (byts zs)) (hB : B ≤ w.heap.size) {z : Int} (h0 : 0 ≤ z) (h1 : z < 9223372036854775808) (hl : zs.length ≤ 1000000000) :
    Calls Try.prog 68 #[v, .int .i64 z] w fun e w' => Told B v (zs ++ numB z) w e w' := by
  obtain ⟨i0, hi, hz0, hz1, hz2⟩ := info_parts infoB
  have CU := hide (uint_any z w h0 (by omega))
  obtain ⟨va, vc, rfl⟩ := owns_slice h
  have HO := hide h
  have HL := hide (numB_len z)
  have hw : IntKind.u64.wrap z = z := by rw [IntKind.wrap_u64]; omega
  clear h
  obtain ⟨n, hn⟩ : ∃ n, zs.length = n := ⟨_, rfl⟩
  have HN := hide hn
  rw [hn] at HO hl ⊢
  clear hn
  go_enter Try.func68, Try.ntmps68
  go_wp2_with (first | (go_at_call 75; refine CU.out.mono ?_; rintro _ w1 ⟨v1, rfl, hu, hb1⟩; obtain ⟨ua, uc, rfl⟩ := owns_slice hu; have HU := hide (src_own (zs := numB z) hu); have HB1 := hide hb1; have HO1 := hide (owns_keep HO.out fun g hg => hb1.block g (owns_lt HO.out hg)); clear hu hb1) | (at_builtin; go_must (refine wpList_append_src _ (Nat.le_trans hB HB1.out.size) (by rfl) _ _ 22 22 rfl 5 i0 _ 1 1 Try.underlying22 hi hz0 hz1 hz2 rfl _ n (byts zs) rfl HO1.out _ _ (byts (numB z)) rfl HU.out (by have := HL.out; unfold numB at this; unfold maxLen; omega) (by have := HL.out; unfold numB at this; omega) ?_); intro v4 w4 hown4 hg4 hat4; obtain ⟨a4, c4, rfl⟩ := owns_slice hown4; have HO4 := hide hown4; have HG4 := hide (grown_row_fr HB1.out hg4); have HAt4 := hide (fun g e => (hat4 g e).imp id (Nat.le_trans HB1.out.size)); clear hown4 hg4 hat4))
  go_ret
  refine ⟨a4, c4, ?_, ?_, HG4.out, fun g e => HAt4.out g (by rw [List.length_append, HN.out] at e; exact e)⟩
  · rw [List.length_append, HN.out]; rfl
  · rw [List.length_append, HN.out, byts_app]; exact HO4.out
theorem told_more {v v1 : Value} {w w1 w2 : World} (h1 : Fr (fun k => v.ownBlock = some k ∨ w.heap.size ≤ k) w w1) (hv : ∀ g, v1.ownBlock = some g → v.ownBlock = some g ∨ w.heap.size ≤ g) (h2 : Fr (fun k => v1.ownBlock = some k) w1 w2) : Fr (fun k => v.ownBlock = some k ∨ w.heap.size ≤ k) w w2 := h1.trans (h2.mono fun k _ e => hv k e)
theorem RR.drop {α : Type} {N k : Nat} {c : World → α → List Value → Prop} {w : World} {l : List α} {a : Option Addr} {m cap : Nat} (h : RR N k c w l (.slice a m cap)) {n g o : Nat} (hn : n ≤ l.length) (ha : a = some ⟨g, o, none⟩) : RR N k c w (l.drop n) (.slice (some ⟨g, o + n * k, none⟩) (l.length - n) (cap - n)) := by
  obtain ⟨a', cap', e, h1, h2, h3⟩ := h
  cases e
  refine ⟨_, _, by rw [List.length_drop], by rw [List.length_drop]; omega, by rw [List.length_drop]; omega, fun i x hi => ?_⟩
  rw [List.getElem?_drop] at hi
  obtain ⟨g', o', xs, e1, e2, e3, e4, e5⟩ := h3 (n + i) x hi
  rw [ha] at e1
  cases e1
  refine ⟨g, _, xs, rfl, e2, e3, fun j u hu => ?_, e5⟩
  have := e4 j u hu
  rw [show o + n * k + i * k + j = o + (n + i) * k + j by rw [Nat.add_mul]; omega]
  exact this
theorem above_at {i : Int} : ∀ {l : List Int} {n : Nat} {x : Int}, l[n]? = some x → (∀ (m : Nat) y, m < n → l[m]? = some y → y ≤ i) → i < x → aboveM i l = l.drop n
  | [], n, x, h, _, _ => by simp at h
  | y :: l, 0, x, h, _, hx => by
    simp at h
    subst h
    unfold aboveM
    rw [List.dropWhile_cons, if_neg (by simp; omega)]
    rfl
  | y :: l, n + 1, x, h, hm, hx => by
    have hy := hm 0 y (by omega) rfl
    have := above_at (l := l) (n := n) (by simpa using h) (fun m z hz hl => hm (m + 1) z (by omega) (by simpa using hl)) hx
    unfold aboveM at this ⊢
    rw [List.dropWhile_cons, if_pos (by simpa using hy), this]
    rfl
theorem above_none {i : Int} {l : List Int} (h : ∀ y ∈ l, y ≤ i) : aboveM i l = [] := by
  unfold aboveM
  have := drop_all (p := fun f => decide (f ≤ i)) (xs := l) (l := []) (fun z hz => by simpa using h z hz)
  simpa using this
set_option maxRecDepth 100000 in
set_option maxHeartbeats 6400000 in
theorem above_any {N : Nat} {w : World} {l : List Int} {a : Option Addr} {c : Nat} (h : Ints N w l (.slice a l.length c)) (i : Int) :
    Calls Try.prog 70 #[.int .i64 i, .slice a l.length c] w fun e w' => ∃ v, e = .returned v ∧ Ints N w (aboveM i l) v ∧ w' = w := by
  have HA := hide h.at1
  have HI := hide h
  have hl := h.lim
  have hlc : l.length ≤ c := by obtain ⟨_, _, e, h1, _⟩ := h; cases e; exact h1
  clear h
  go_enter Try.func70, Try.ntmps70
  go_wp2_with fail
  go_loop [9] (fun x => ∃ k : Nat, k ≤ l.length ∧ x = .int .i64 k ∧ Hid (∀ (m : Nat) y, m < k → l[m]? = some y → y ≤ i)) (fun x => l.length - (intOf x).toNat)
  case atStart => exact ⟨0, by omega, rfl, hide fun m y hm => by omega⟩
  case round =>
    obtain ⟨k, hk, rfl, HK⟩ := hrel
    by_cases hlt : k < l.length
    · obtain ⟨x, hx⟩ := get_at hlt
      obtain ⟨g, of, rfl, kc⟩ := HA.out.get hx
      by_cases hxi : i < x
      · have HR : Hid (Ints N w (aboveM i l) (.slice (some ⟨g, of + k, none⟩) (l.length - k) (c - k))) := hide (by
          rw [above_at hx HK.out hxi]
          have := RR.drop HI.out hk rfl
          rw [Nat.mul_one] at this
          exact this)
        clear HK hx
        go_wp2_with fail
        go_ret
        exact ⟨_, rfl, HR.out, rfl⟩
      · have HN : Hid (∀ (m : Nat) y, m < k + 1 → l[m]? = some y → y ≤ i) := hide fun m y hm hy => by
          by_cases e : m = k
          · subst e; rw [hx] at hy; cases hy; omega
          · exact HK.out m y (by omega) hy
        clear HK hx
        go_wp2_with fail
        go_round
        case rel => exact ⟨k + 1, by omega, by go_num, HN⟩
        case measure => simp [intOf]; omega
    · have HR : Hid (Ints N w (aboveM i l) (.slice none 0 0)) := hide (by
        rw [above_none fun y hy => by
          obtain ⟨m, hm, rfl⟩ := List.mem_iff_getElem.1 hy
          exact HK.out m _ (by omega) (List.getElem?_eq_getElem hm)]
        exact ⟨none, 0, rfl, Nat.le_refl _, Nat.zero_le _, fun i x hx => by simp at hx⟩)
      clear HK
      go_wp2_with fail
      go_ret
      exact ⟨_, rfl, HR.out, rfl⟩
theorem nums_step {l : List Int} {k : Nat} {x : Int} (h : l[k]? = some x) : numsB (l.drop k) = numB x ++ numsB (l.drop (k + 1)) := by rw [drop_at h]; rfl
theorem fr_down {v : Value} {w w' : World} (h : Fr (fun k => v.ownBlock = some k ∨ w.heap.size ≤ k) w w') : Fr (fun k => v.ownBlock = some k) w w' := h.mono fun k hk e => by rcases e with e | e; exact e; omega
set_option maxRecDepth 100000 in
set_option maxHeartbeats 6400000 in
theorem putList_any {w : World} {B : Nat} {v : Value} {zs : List Int} (h : w.ownsRow B 5 1 v zs.length (byts zs)) (hB : B ≤ w.heap.size) {l : List Int} {la : Option Addr} {lc : Nat} (hI : Ints B w l (.slice la l.length lc)) (hz : ∀ z ∈ l, 0 ≤ z ∧ z < 9223372036854775808) (hl : (zs ++ listB l).length ≤ 1000000000) :
    Calls Try.prog 69 #[v, .slice la l.length lc] w fun e w' => Told B v (zs ++ listB l) w e w' := by
  have hll := hI.lim
  have hzs : zs.length ≤ 1000000000 := by rw [List.length_append] at hl; omega
  have CP := hide (put_any h hB (z := l.length) (by omega) (by omega) hzs)
  have HL := hide hl
  have HI := hide hI
  have HZ := hide hz
  have HO := hide h
  clear h hI hz hl hzs
  go_enter Try.func69, Try.ntmps69
  go_wp2_with (go_at_call 68; refine CP.out.mono ?_; rintro _ w1 ⟨a1, c1, rfl, ho1, hf1, hat1⟩; have HO1 := hide ho1; have HF1 : Hid (Fr (fun k => v.ownBlock = some k ∨ w.heap.size ≤ k) w w1) := hide (hf1.mono fun k _ e => .inl e); have HAt1 := hide hat1; clear ho1 hf1 hat1)
  go_loopw [0, 13] (fun y x wr => ∃ (k : Nat) (acc : List Int) (a c : _), k ≤ l.length ∧ x = .int .i64 k ∧ y = .slice a acc.length c ∧ Hid (wr.ownsRow B 5 1 (.slice a acc.length c) acc.length (byts acc)) ∧ Hid (Fr (fun k => v.ownBlock = some k ∨ w.heap.size ≤ k) w wr) ∧ Hid (∀ g, Value.ownBlock (.slice a acc.length c) = some g → v.ownBlock = some g ∨ w.heap.size ≤ g) ∧ Hid (acc ++ numsB (l.drop k) = zs ++ listB l)) (fun _ x _ => l.length - (intOf x).toNat)
  case atStart => exact ⟨0, _, _, _, by omega, rfl, by rw [List.length_append], HO1, HF1, HAt1, hide (by rw [List.drop_zero, List.append_assoc]; rfl)⟩
  case round =>
    clear HO1 HF1 HAt1 CP
    obtain ⟨k, acc, a, c, hk, rfl, rfl, HR, HF, HAt, HE⟩ := hrel
    by_cases hlt : k < l.length
    · obtain ⟨x, hx⟩ := get_at hlt
      have hbw : Below B w wr := HF.out.below fun k hk => ⟨by omega, fun e => by rcases e with e | e; have := (HO.out.lt k e).1; omega; omega⟩
      obtain ⟨g, of, rfl, -, kc⟩ := at_I (HI.out.keep hbw.block) hx
      obtain ⟨hx0, hx1⟩ := HZ.out x (List.mem_of_getElem? hx)
      have hacc : acc.length ≤ 1000000000 := by have h1 := congrArg List.length HE.out; have h2 := HL.out; rw [List.length_append] at h1; omega
      have CP := hide (put_any HR.out (Nat.le_trans hB HF.out.size) hx0 hx1 hacc)
      have HE2 : Hid (acc ++ numB x ++ numsB (l.drop (k + 1)) = zs ++ listB l) := hide (by rw [← HE.out, nums_step hx, List.append_assoc])
      clear hx hbw HR HE
      go_wp2_with (go_at_call 68; refine CP.out.mono ?_; rintro _ w2 ⟨a2, c2, rfl, ho2, hf2, hat2⟩; have HO2 := hide ho2; have HF2 := hide (told_more HF.out HAt.out hf2); have HAt2 : Hid (∀ g, Value.ownBlock (.slice a2 (acc ++ numB x).length c2) = some g → v.ownBlock = some g ∨ w.heap.size ≤ g) := hide (fun g e => (hat2 g e).elim (HAt.out g) (fun h => .inr (Nat.le_trans HF.out.size h))); clear ho2 hf2 hat2)
      go_roundw
      case rel => exact ⟨k + 1, acc ++ numB x, _, _, by omega, by go_num, by rw [List.length_append], HO2, HF2, HAt2, HE2⟩
      case measure => simp [intOf]; omega
    · have HE2 : Hid (acc = zs ++ listB l) := hide (by rw [← HE.out, drop_end (by omega)]; simp [numsB])
      clear HE
      go_wp2_with fail
      go_ret
      rw [← HE2.out]
      exact ⟨a, c, rfl, HR.out, fr_down HF.out, HAt.out⟩
end Go.Proofs.Ytdmnoeooljofcaa
