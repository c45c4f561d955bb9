/- putStep. -/
import Derived.Test.YtagpdceaononkaaWPut
import Derived.Deep.CutRange
import Derived.Deep.RegionLaw
namespace Go.Proofs.Ytagpdceaononkaa
open Go.RowKit

section
variable {wr w5 : World} {ob : Obj} {v : Value}
theorem grown_old2 (hgrow : (wr.alloc ob).drew.grownBy w5 v.ownBlock) {k : Nat} (hk : k < wr.heap.size) (hn : v.ownBlock ≠ some k) : w5.heap[k]? = wr.heap[k]? := by
  refine (hgrow.block k ?_ fun e => hn e.symm).trans ((below_new wr ob).block k hk)
  have : (wr.alloc ob).drew.heap.size = wr.heap.size + 1 := by show (wr.alloc ob).heap.size = _; simp
  omega
theorem grown_fr2 (hgrow : (wr.alloc ob).drew.grownBy w5 v.ownBlock) : Fr (fun k => v.ownBlock = some k) wr w5 := (Fr.of_below (below_new wr ob).drew).trans (.of_grown hgrow fun _ e => e)
end
/-- What has been written of a step, its box beside. -/
structure Ws (w : World) (B : Nat) (v : Value) (vs : List Value) (acc : List Int) (a : Option Addr) (c : Nat) (wr : World) : Prop where
  row : wr.ownsRow B 5 1 (.slice a acc.length c) acc.length (byts acc)
  fr : Fr (fun k => v.ownBlock = some k ∨ w.heap.size ≤ k) w wr
  own : ∀ g, Value.ownBlock (.slice a acc.length c) = some g → v.ownBlock = some g ∨ w.heap.size < g
  bx : Fx w.heap.size 52 vs wr
section
variable {w wr w2 : World} {B : Nat} {v : Value} {vs : List Value} {acc zs : List Int} {a a2 : Option Addr} {c c2 : Nat}
theorem Ws.lt (h : Ws w B v vs acc a c wr) : w.heap.size < wr.heap.size := h.bx.lt
theorem Ws.ne (h : Ws w B v vs acc a c wr) (hv : ∀ g, v.ownBlock = some g → g < w.heap.size) : Value.ownBlock (.slice a acc.length c) ≠ some w.heap.size := fun e => by
  rcases h.own _ e with e | e
  · have := hv _ e; omega
  · omega
theorem Ws.told (h : Ws w B v vs acc a c wr) (hv : ∀ g, v.ownBlock = some g → g < w.heap.size) (ho : w2.ownsRow B 5 1 (.slice a2 zs.length c2) zs.length (byts zs)) (hf : Fr (fun k => Value.ownBlock (.slice a acc.length c) = some k) wr w2)
    (hat : ∀ g, Value.ownBlock (.slice a2 zs.length c2) = some g → Value.ownBlock (.slice a acc.length c) = some g ∨ wr.heap.size ≤ g) : Ws w B v vs zs a2 c2 w2 := by
  have hlt := h.lt
  refine ⟨ho, h.fr.trans (hf.mono fun k _ e => ?_), fun g e => ?_, h.bx.keep (hf.block _ hlt (h.ne hv))⟩
  · rcases h.own k e with e | e
    · exact .inl e
    · exact .inr (by omega)
  · rcases hat g e with e | e
    · exact h.own g e
    · exact .inr (by omega)
theorem Ws.grow {ob : Obj} {gg cap : Nat} {x : Int} (h : Ws w B v vs acc a c wr) (hv : ∀ g, v.ownBlock = some g → g < w.heap.size) (ho : w2.ownsRow B 5 1 (.slice (some ⟨gg, 0, none⟩) (acc.length + 1) cap) (acc.length + 1) (byts acc ++ [.int .u8 x]))
    (hgrow : (wr.alloc ob).drew.grownBy w2 (Value.ownBlock (.slice a acc.length c))) (hat : Value.ownBlock (.slice a acc.length c) = some gg ∨ gg = wr.heap.size + 1) {ac1 : List Int} (hac : acc ++ [x] = ac1) : Ws w B v vs ac1 (some ⟨gg, 0, none⟩) cap w2 := by
  subst hac
  refine h.told hv (by rw [List.length_append, byts_app]; exact ho) (grown_fr2 hgrow) fun g e => ?_
  cases e
  rcases hat with e | e
  · exact .inl e
  · exact .inr (by show wr.heap.size ≤ gg; omega)
theorem Ws.put {z : Int} (h : Ws w B v vs acc a c wr) (hB : B ≤ w.heap.size) (h0 : 0 ≤ z) (h1 : z < 9223372036854775808) (hl : acc.length ≤ 100000000000) {n : Nat} (hn : acc.length = n) (hz : acc ++ numB z = zs) :
    Calls Try.prog 35 #[.slice a n c, .int .i64 z] wr fun e w' => Told B (.slice a acc.length c) zs wr e w' := by
  subst hn hz
  exact put_any h.row (Nat.le_trans hB (Nat.le_of_lt h.lt)) h0 h1 hl
theorem Ws.rai {z : Int} (h : Ws w B v vs acc a c wr) (hB : B ≤ w.heap.size) (h0 : -1 ≤ z) (h1 : z < 9223372036854775800) (hl : acc.length ≤ 100000000000) {n : Nat} (hn : acc.length = n) (hz : acc ++ numB (z + 1) = zs) :
    Calls Try.prog 45 #[.slice a n c, .int .i64 z] wr fun e w' => Told B (.slice a acc.length c) zs wr e w' := by
  subst hn hz
  exact raised_put h.row (Nat.le_trans hB (Nat.le_of_lt h.lt)) h0 h1 hl
theorem Ws.low (h : Ws w B v vs acc a c wr) (hB : B ≤ w.heap.size) (hv : ∀ g, v.ownBlock = some g → B ≤ g) : Below B w wr := h.fr.below fun k hk => ⟨by omega, fun e => by
  rcases e with e | e
  · have := hv k e; omega
  · omega⟩
theorem Ws.in (h : Ws w B v vs acc a c wr) : Fr (fun k => v.ownBlock = some k) w wr := fr_down h.fr
theorem Ws.go (h : Ws w B v vs acc a c wr) (hv : ∀ g, v.ownBlock = some g → g < w.heap.size) (hb : Below wr.heap.size wr w2) : Ws w B v vs acc a c w2 :=
  h.told hv (owns_keep h.row fun g hg => hb.block g (owns_lt h.row hg)) (.of_below hb) fun _ e => .inl e
end
theorem Sts.ch_at {N : Nat} {w : World} {l : List (Int × Int)} {a : Option Addr} (h : ChN N w a l) {i : Nat} {x : Int × Int} (hx : l[i]? = some x) : ∃ g o, a = some ⟨g, o, none⟩ ∧ w.cell? ⟨g, o + i * 2, none⟩ = some (.int .i64 x.1) ∧ w.cell? ⟨g, o + i * 2 + 1, none⟩ = some (.int .i64 x.2) := by
  obtain ⟨g, o, e, _, c0, c1⟩ := h i x hx
  exact ⟨g, o, e, c0, c1⟩
theorem cho_step {l : List (Int × Int)} {k : Nat} {x : Int × Int} (h : l[k]? = some x) : (l.drop k).flatMap choB = numB (x.1 + 1) ++ (numB (x.2 + 1) ++ (l.drop (k + 1)).flatMap choB) := by rw [drop_at h, List.flatMap_cons]; unfold choB; simp
theorem len_le {a b c : List Int} {n : Nat} (h : a ++ b = c) (hc : c.length ≤ n) : a.length ≤ n := by rw [← h, List.length_append] at hc; omega
set_option maxRecDepth 100000 in
set_option maxHeartbeats 12800000 in
theorem putStep_any {w : World} {B N : Nat} {v : Value} {zs : List Int} (h : w.ownsRow B 5 1 v zs.length (byts zs)) (hB : B ≤ w.heap.size) (hN : N ≤ B) {s : StM} {ca : Option Addr} {cc : Nat} (hm : May s) (hc : ChN N w ca s.ch) (hl : (zs ++ stB s).length ≤ 100000000000) :
    Calls Try.prog 36 #[v, stv s ca cc] w fun e w' => Told B v (zs ++ stB s) w e w' := by
  obtain ⟨i0, hi, hz0, hz1, hz2⟩ := info_parts infoB
  obtain ⟨va, vc, rfl⟩ := owns_slice h
  obtain ⟨E, hE⟩ : ∃ E, zs ++ stB s = E := ⟨_, rfl⟩
  rw [hE] at hl ⊢
  obtain ⟨E1, hE1⟩ : ∃ E1, zs ++ [s.tag] = E1 := ⟨_, rfl⟩
  obtain ⟨E2, hE2⟩ : ∃ E2, E1 ++ numB s.lit = E2 := ⟨_, rfl⟩
  obtain ⟨E3, hE3⟩ : ∃ E3, E2 ++ [s.how] = E3 := ⟨_, rfl⟩
  obtain ⟨E4, hE4⟩ : ∃ E4, E3 ++ numB (s.rule + 1) = E4 := ⟨_, rfl⟩
  obtain ⟨E5, hE5⟩ : ∃ E5, E4 ++ numB s.ch.length = E5 := ⟨_, rfl⟩
  have hE6 : E5 ++ (s.ch.drop 0).flatMap choB = E := by rw [← hE, ← hE5, ← hE4, ← hE3, ← hE2, ← hE1, List.drop_zero]; unfold stB; simp
  have l5 := len_le hE6 hl
  have l4 := len_le hE5 l5
  have l3 := len_le hE4 l4
  have l2 := len_le hE3 l3
  have l1 := len_le hE2 l2
  have l0 := len_le hE1 l1
  have hv : ∀ g, Value.ownBlock (.slice va zs.length vc) = some g → g < w.heap.size := fun g e => (h.lt g e).2
  have hvB : ∀ g, Value.ownBlock (.slice va zs.length vc) = some g → B ≤ g := fun g e => (h.lt g e).1
  have hA := below_new w (.cells (stc s ca cc).toArray 52)
  have hW : Ws w B (.slice va zs.length vc) (stc s ca cc) zs va vc (w.alloc (.cells (stc s ca cc).toArray 52)) := ⟨owns_keep h fun g hg => hA.block g (owns_lt h hg), .of_below hA, fun g e => .inl e, fx_new w _ _⟩
  have hwt : IntKind.u8.wrap s.tag = s.tag := by rw [IntKind.wrap_u8']; have := hm.t0; have := hm.t1; omega
  have hwh : IntKind.u8.wrap s.how = s.how := by rw [IntKind.wrap_u8']; have := hm.h0; have := hm.h1; omega
  have HZ2 : Hid (s.rule < 9223372036854775800) := hide (by have := hm.r1; omega)
  have HZ3 : Hid ((s.ch.length : Int) < 9223372036854775808) := hide (by have := hm.cl; omega)
  have hcl := hm.cl
  have HN3 : Hid (E3.length = E2.length + 1) := hide (by rw [← hE3, List.length_append]; rfl)
  have HZ1 : Hid (s.lit < 9223372036854775808) := hide (by have := hm.l1; omega)
  have HN1 : Hid (E1.length = zs.length + 1) := hide (by rw [← hE1, List.length_append]; rfl)
  have HM := hide hm
  have HV := hide hv
  have HVB := hide hvB
  have HL := hide hl
  have HE1 := hide hE1
  have HE2 := hide hE2
  have HE3 := hide hE3
  have HE4 := hide hE4
  have HE5 := hide hE5
  have HE6 := hide hE6
  have HC := hide (hc.up hN)
  have HL5 := hide l5
  have HL4 := hide l4
  have HL3 := hide l3
  have HL1 := hide l1
  have HL2 := hide l2
  have hsz : w.heap.size < (w.alloc (.cells (stc s ca cc).toArray 52)).heap.size := hW.lt
  clear h hE hE1 hE2 hE3 hE4 hE5 hE6 hm hv hvB hA hc hl l1 l2 l3 l4 l5 hN
  unfold stv
  go_enter Try.func36, Try.ntmps36
  go_upto_region 1 with fail
  unfold stc at hW hsz
  generalize w.alloc (.cells [.int .i64 s.tag, .int .i64 s.lit, .int .i64 s.how, .int .i64 s.rule, .slice ca s.ch.length cc].toArray 52) = W at *
  go_cut [0] from 7 to 15 (fun u wx => ∃ X a c, X = wx ∧ u = .slice a E2.length c ∧ Hid (Ws w B (.slice va zs.length vc) [.int .i64 s.tag, .int .i64 s.lit, .int .i64 s.how, .int .i64 s.rule, .slice ca s.ch.length cc] E2 a c X))
  case first =>
    obtain ⟨c0, c1, c2, c3, c4⟩ := five_cells hW.bx
    have hA := below_new W (.cells #[.int .u8 s.tag] 5)
    have HOM := hide (owns_keep hW.row fun g hg => hA.drew.block g (owns_lt hW.row hg))
    have HNA : Hid (∀ j u, [Value.int .u8 s.tag][j]? = some u → (W.alloc (.cells #[.int .u8 s.tag] 5)).drew.cell? ((⟨W.heap.size, 0, none⟩ : Addr).add j) = some u) := hide (World.news_of_block (cs := [Value.int .u8 s.tag].toArray) (t := 5) (fr := (0, 0)) (heap_alloc_new W (.cells #[.int .u8 s.tag] 5)))
    have HSA : Hid ((W.alloc (.cells #[.int .u8 s.tag] 5)).drew.heap.size = W.heap.size + 1) := hide (by show (W.alloc (.cells #[.int .u8 s.tag] 5)).heap.size = _; simp)
    have cA := (hW.bx.keep (hA.block _ hsz)).get (i := 1) (v := .int .i64 s.lit) rfl
    have HW := hide hW
    clear hA hW
    go_region_law (first
      | (refine step_append_lies _ (by rfl) _ _ _ (by rfl) B 5 i0 _ 1 1 Try.underlying29 hi hz0 hz1 hz2 rfl (by decide) (.slice va zs.length vc) zs.length (byts zs) (by rfl) HOM.out ⟨W.heap.size, 0, none⟩ 1 1 [.int .u8 s.tag] (by rfl) rfl HNA.out (by simp [Value.oneCell']) (by decide) (by unfold maxLen; omega) (by omega) (by rw [HSA.out]; omega) (W.heap.size + 1) HSA.out ?_; intro gg cap w5 hown hgrow hat hlt5; have q1 : w5.cell? ⟨w.heap.size, 1, none⟩ = some (.int .i64 s.lit) := (HW.out.bx.keep (grown_old2 hgrow hsz (HW.out.ne HV.out))).get rfl; have HW5 := hide (HW.out.grow HV.out hown hgrow hat HE1.out); have CP := hide (HW5.out.put hB HM.out.l0 HZ1.out HL1.out HN1.out HE2.out); clear hown hgrow hat hlt5)
      | (go_simp; go_wp2_with (go_at_call 35; refine CP.out.mono ?_; rintro _ w6 ⟨a6, c6, rfl, ho6, hf6, hat6⟩; have HW6 := hide (HW5.out.told HV.out ho6 hf6 hat6); clear ho6 hf6 hat6)))
    all_goals (go_wp2_with fail; go_meet)
    all_goals exact ⟨_, _, _, rfl, rfl, HW6⟩
  case rest =>
    obtain ⟨X, a, c, rfl, rfl, HW⟩ := hcut
    clear hW hsz
    go_upto_region 2 with fail
    go_cut [0] from 16 to 24 (fun u wx => ∃ X a c, X = wx ∧ u = .slice a E4.length c ∧ Hid (Ws w B (.slice va zs.length vc) [.int .i64 s.tag, .int .i64 s.lit, .int .i64 s.how, .int .i64 s.rule, .slice ca s.ch.length cc] E4 a c X))
    case first =>
      have hsx : w.heap.size < X.heap.size := HW.out.lt
      have hl2 := HL2.out
      obtain ⟨c0, c1, c2, c3, c4⟩ := five_cells HW.out.bx
      have hA := below_new X (.cells #[.int .u8 s.how] 5)
      have HOM := hide (owns_keep HW.out.row fun g hg => hA.drew.block g (owns_lt HW.out.row hg))
      have HNA : Hid (∀ j u, [Value.int .u8 s.how][j]? = some u → (X.alloc (.cells #[.int .u8 s.how] 5)).drew.cell? ((⟨X.heap.size, 0, none⟩ : Addr).add j) = some u) := hide (World.news_of_block (cs := [Value.int .u8 s.how].toArray) (t := 5) (fr := (0, 0)) (heap_alloc_new X (.cells #[.int .u8 s.how] 5)))
      have HSA : Hid ((X.alloc (.cells #[.int .u8 s.how] 5)).drew.heap.size = X.heap.size + 1) := hide (by show (X.alloc (.cells #[.int .u8 s.how] 5)).heap.size = _; simp)
      have cA := (HW.out.bx.keep (hA.block _ hsx)).get (i := 3) (v := .int .i64 s.rule) rfl
      clear hA
      go_region_law (first
        | (refine step_append_lies _ (by rfl) _ _ _ (by rfl) B 5 i0 _ 1 1 Try.underlying29 hi hz0 hz1 hz2 rfl (by decide) (.slice a E2.length c) E2.length (byts E2) (by rfl) HOM.out ⟨X.heap.size, 0, none⟩ 1 1 [.int .u8 s.how] (by rfl) rfl HNA.out (by simp [Value.oneCell']) (by decide) (by unfold maxLen; omega) (by omega) (by rw [HSA.out]; omega) (X.heap.size + 1) HSA.out ?_; intro gg cap w5 hown hgrow hat hlt5; have q1 : w5.cell? ⟨w.heap.size, 3, none⟩ = some (.int .i64 s.rule) := (HW.out.bx.keep (grown_old2 hgrow hsx (HW.out.ne HV.out))).get rfl; have HW5 := hide (HW.out.grow HV.out hown hgrow hat HE3.out); have CP := hide (HW5.out.rai hB HM.out.r0 HZ2.out HL3.out HN3.out HE4.out); clear hown hgrow hat hlt5)
        | (go_simp; go_wp2_with (go_at_call 45; refine CP.out.mono ?_; rintro _ w6 ⟨a6, c6, rfl, ho6, hf6, hat6⟩; have HW6 := hide (HW5.out.told HV.out ho6 hf6 hat6); clear ho6 hf6 hat6)))
      all_goals (go_wp2_with fail; go_meet)
      all_goals exact ⟨_, _, _, rfl, rfl, HW6⟩
    case rest =>
      clear HW
      obtain ⟨X, a, c, rfl, rfl, HW⟩ := hcut
      obtain ⟨c0, c1, c2, c3, c4⟩ := five_cells HW.out.bx
      have CP := hide (HW.out.put (z := s.ch.length) hB (by omega) HZ3.out HL4.out rfl HE5.out)
      go_upto_region 4 with (go_at_call 35; refine CP.out.mono ?_; rintro _ w6 ⟨a6, c6, rfl, ho6, hf6, hat6⟩; have HW6 := hide (HW.out.told HV.out ho6 hf6 hat6); clear ho6 hf6 hat6)
      clear c0 c1 c2 c3 c4 CP HW
      obtain ⟨c0, c1, c2, c3, c4⟩ := five_cells HW6.out.bx
      go_wp2_with fail
      clear c0 c1 c2 c3 c4
      go_loopw [0, 33] (fun u x wr => ∃ (k : Nat) (acc : List Int) (a : Option Addr) (c : Nat), k ≤ s.ch.length ∧ x = .int .i64 k ∧ u = .slice a acc.length c ∧ Hid (Ws w B (.slice va zs.length vc) [.int .i64 s.tag, .int .i64 s.lit, .int .i64 s.how, .int .i64 s.rule, .slice ca s.ch.length cc] acc a c wr) ∧ Hid (acc ++ (s.ch.drop k).flatMap choB = E)) (fun _ x _ => s.ch.length - (intOf x).toNat)
      case atStart => exact ⟨0, _, _, _, by omega, rfl, rfl, HW6, HE6⟩
      case round =>
        clear HW6 HE6
        obtain ⟨k, acc, a, c, hk, rfl, rfl, HW, HE⟩ := hrel
        by_cases hlt : k < s.ch.length
        · obtain ⟨x, hx⟩ := get_at hlt
          have hbw := HW.out.low hB HVB.out
          obtain ⟨g, of, rfl, d0, d1⟩ := Sts.ch_at (HC.out.keep hbw.block) hx
          have hxb := HM.out.ch x (List.mem_of_getElem? hx)
          obtain ⟨A1, hA1⟩ : ∃ A1, acc ++ numB (x.1 + 1) = A1 := ⟨_, rfl⟩
          obtain ⟨A2, hA2⟩ : ∃ A2, A1 ++ numB (x.2 + 1) = A2 := ⟨_, rfl⟩
          have hE2 : A2 ++ (s.ch.drop (k + 1)).flatMap choB = E := by rw [← HE.out, cho_step hx, ← hA2, ← hA1]; simp
          have m2 := len_le hE2 HL.out
          have m1 := len_le hA2 m2
          have m0 := len_le hA1 m1
          have HE2 := hide hE2
          have HA2 := hide hA2
          have hAl := below_new wr (.cells #[.int .i64 x.1, .int .i64 x.2] 54)
          have hX := fx_new wr [.int .i64 x.1, .int .i64 x.2] 54
          have HWa := hide (HW.out.go HV.out hAl)
          have CP := hide (HWa.out.rai (z := x.1) hB hxb.1.1 (by omega) m0 rfl hA1)
          have HX2 : Hid (x.2 < 9223372036854775800) := hide (by omega)
          have HX3 : Hid (-1 ≤ x.2) := hide hxb.2.1
          have HM1 := hide m1
          have hneb : Value.ownBlock (.slice a acc.length c) ≠ some wr.heap.size := fun e => by have := (HW.out.row.lt _ e).2; omega
          have HNE := hide hneb
          clear hx hbw hxb hE2 hA1 hA2 m0 m1 m2 hAl HE HW hneb
          go_upto_region 7 with fail
          generalize wr.alloc (.cells #[.int .i64 x.1, .int .i64 x.2] 54) = w2 at *
          have q0 : w2.cell? ⟨wr.heap.size, 0, none⟩ = some (.int .i64 x.1) := Fx.get hX rfl
          have hbl : wr.heap.size < w2.heap.size := Fx.lt hX
          have HX := hide hX
          clear hX d0 d1
          generalize wr.heap.size = b at *
          go_upto_region 8 with (go_at_call 45; refine CP.out.mono ?_; rintro _ w3 ⟨a3, c3, rfl, ho3, hf3, hat3⟩; have HW3 := hide (HWa.out.told HV.out ho3 hf3 hat3); have q1 : w3.cell? ⟨b, 1, none⟩ = some (.int .i64 x.2) := (HX.out.keep (hf3.block _ hbl HNE.out)).get rfl; clear ho3 hf3 hat3)
          have CP2 := hide (HW3.out.rai (z := x.2) hB HX3.out HX2.out HM1.out rfl HA2.out)
          clear q0 CP HWa HX hbl HNE
          go_wp2_with (go_at_call 45; refine CP2.out.mono ?_; rintro _ w4 ⟨a4, c4, rfl, ho4, hf4, hat4⟩; have HW4 := hide (HW3.out.told HV.out ho4 hf4 hat4); clear ho4 hf4 hat4)
          go_roundw
          case rel => exact ⟨k + 1, A2, _, _, by omega, by go_num, rfl, HW4, HE2⟩
          case measure => simp [intOf]; omega
        · have HR : Hid (acc = E) := hide (by have := HE.out; rw [drop_end (by omega)] at this; simpa using this)
          clear HE
          go_wp2_with fail
          go_ret
          rw [← HR.out]
          exact ⟨a, c, rfl, HW.out.row, HW.out.in, fun g e => (HW.out.own g e).elim .inl fun h => .inr (Nat.le_of_lt h)⟩
end Go.Proofs.Ytagpdceaononkaa
