/- put, putRaised. -/
import Derived.Test.YtagpdceaononkaaWStp
import Derived.Test.YtagpdceaononkaaWBack
import Derived.Test.YtagpdceaononkaaOUint
namespace Go.Proofs.Ytagpdceaononkaa
open Go.RowKit

def byts (l : List Int) : List Value := l.map (Value.int .u8)
theorem byts_app {a b : List Int} : byts (a ++ b) = byts a ++ byts b := by unfold byts; simp
theorem byts_len {a : List Int} : (byts a).length = a.length := by unfold byts; simp
theorem src_own {w : World} {b : Nat} {a : Option Addr} {n c : Nat} {zs : List Int} (h : w.ownsRow b 5 1 (.slice a n c) n (byts zs)) : Src Try.prog 1 29 (.slice a n c) n (byts zs) w := by
  have hl : zs.length = n := by have := h.1; rw [byts_len] at this; omega
  by_cases hn : n = 0
  · subst hn
    have : zs = [] := List.eq_nil_of_length_eq_zero hl
    subst this
    cases a with
    | none => exact Src.ofNil w Try.underlying29 c
    | some a => exact Src.ofSlice w Try.underlying29 _ 0 c [] rfl (fun j u hu => by simp at hu) (by simp)
  · obtain ⟨g, e, _, _, hc⟩ := own_news h hn
    subst e
    refine Src.ofSlice w Try.underlying29 _ n c (byts zs) (by rw [byts_len]; omega) hc fun u hu => ?_
    obtain ⟨x, _, rfl⟩ := List.mem_map.1 hu
    rfl
/-- How a call ends that tells more bytes. -/
def Told (B : Nat) (v : Value) (zs : List Int) (w : World) (e : Ending) (w' : World) : Prop := ∃ a c, e = .returned (.slice a zs.length c) ∧ w'.ownsRow B 5 1 (.slice a zs.length c) zs.length (byts zs) ∧ Fr (fun k => v.ownBlock = some k) w w' ∧ ∀ g, Value.ownBlock (.slice a zs.length c) = some g → v.ownBlock = some g ∨ w.heap.size ≤ g
theorem grown_row_fr {w w1 w2 : World} {v : Value} (hb : Below w.heap.size w w1) (hg : w1.grownBy w2 v.ownBlock) : Fr (fun k => v.ownBlock = some k) w w2 := (Fr.of_below hb).trans (.of_grown hg fun _ e => e)
set_option maxRecDepth 100000 in
set_option maxHeartbeats 6400000 in
theorem put_any {w : World} {B : Nat} {v : Value} {zs : List Int} (h : w.ownsRow B 5 1 v zs.length (byts zs)) (hB : B ≤ w.heap.size) {z : Int} (h0 : 0 ≤ z) (h1 : z < 9223372036854775808) (hl : zs.length ≤ 100000000000) :
    Calls Try.prog 35 #[v, .int .i64 z] w fun e w' => Told B v (zs ++ numB z) w e w' := by
  obtain ⟨i0, hi, hz0, hz1, hz2⟩ := info_parts infoB
  have CU := hide (uint_any z w h0 (by omega))
  obtain ⟨va, vc, rfl⟩ := owns_slice h
  have HO := hide h
  have HL := hide (numB_len z)
  have hw : IntKind.u64.wrap z = z := by rw [IntKind.wrap_u64]; omega
  clear h
  obtain ⟨n, hn⟩ : ∃ n, zs.length = n := ⟨_, rfl⟩
  have HN := hide hn
  rw [hn] at HO hl ⊢
  clear hn
  go_enter Try.func35, Try.ntmps35
  go_wp2_with (first | (go_at_call 44; refine CU.out.mono ?_; rintro _ w1 ⟨v1, rfl, hu, hb1⟩; obtain ⟨ua, uc, rfl⟩ := owns_slice hu; have HU := hide (src_own (zs := numB z) hu); have HB1 := hide hb1; have HO1 := hide (owns_keep HO.out fun g hg => hb1.block g (owns_lt HO.out hg)); clear hu hb1) | (at_builtin; go_must (refine wpList_append_src _ (Nat.le_trans hB HB1.out.size) (by rfl) _ _ 29 29 rfl 5 i0 _ 1 1 Try.underlying29 hi hz0 hz1 hz2 rfl _ n (byts zs) rfl HO1.out _ _ (byts (numB z)) rfl HU.out (by have := HL.out; unfold numB at this; unfold maxLen; omega) (by have := HL.out; unfold numB at this; omega) ?_); intro v4 w4 hown4 hg4 hat4; obtain ⟨a4, c4, rfl⟩ := owns_slice hown4; have HO4 := hide hown4; have HG4 := hide (grown_row_fr HB1.out hg4); have HAt4 := hide (fun g e => (hat4 g e).imp id (Nat.le_trans HB1.out.size)); clear hown4 hg4 hat4))
  go_ret
  refine ⟨a4, c4, ?_, ?_, HG4.out, fun g e => HAt4.out g (by rw [List.length_append, HN.out] at e; exact e)⟩
  · rw [List.length_append, HN.out]; rfl
  · rw [List.length_append, HN.out, byts_app]; exact HO4.out
theorem told_below {B : Nat} {v : Value} {w w' : World} {n : Nat} {xs : List Value} (h : w.ownsRow B 5 1 v n xs) (hB : B ≤ w.heap.size) (hf : Fr (fun k => v.ownBlock = some k) w w') : Below B w w' := hf.below fun k hk => ⟨by omega, fun e => by have := (h.lt k e).1; omega⟩
theorem told_more {v v1 : Value} {w w1 w2 : World} (h1 : Fr (fun k => v.ownBlock = some k ∨ w.heap.size ≤ k) w w1) (hv : ∀ g, v1.ownBlock = some g → v.ownBlock = some g ∨ w.heap.size ≤ g) (h2 : Fr (fun k => v1.ownBlock = some k) w1 w2) : Fr (fun k => v.ownBlock = some k ∨ w.heap.size ≤ k) w w2 := h1.trans (h2.mono fun k _ e => hv k e)
theorem fr_down {v : Value} {w w' : World} (h : Fr (fun k => v.ownBlock = some k ∨ w.heap.size ≤ k) w w') : Fr (fun k => v.ownBlock = some k) w w' := h.mono fun k hk e => by rcases e with e | e; exact e; omega
set_option maxRecDepth 100000 in
set_option maxHeartbeats 6400000 in
theorem raised_put {w : World} {B : Nat} {v : Value} {zs : List Int} (h : w.ownsRow B 5 1 v zs.length (byts zs)) (hB : B ≤ w.heap.size) {z : Int} (h0 : -1 ≤ z) (h1 : z < 9223372036854775800) (hl : zs.length ≤ 100000000000) :
    Calls Try.prog 45 #[v, .int .i64 z] w fun e w' => Told B v (zs ++ numB (z + 1)) w e w' := by
  have CP := hide (put_any h hB (z := z + 1) (by omega) (by omega) hl)
  have hw : IntKind.i64.wrap (z - -1) = z + 1 := by rw [IntKind.wrap_i64]; omega
  obtain ⟨va, vc, rfl⟩ := owns_slice h
  clear h
  go_enter Try.func45, Try.ntmps45
  go_wp2_with (go_at_call 35; refine CP.out.mono ?_; rintro _ w1 ⟨a1, c1, rfl, ho1, hf1, hat1⟩; have HT := hide (And.intro ho1 (And.intro hf1 hat1)); clear ho1 hf1 hat1)
  go_ret
  exact ⟨a1, c1, by rw [List.length_append]; rfl, HT.out.1, HT.out.2.1, HT.out.2.2⟩
end Go.Proofs.Ytagpdceaononkaa
