/- The reader: step. -/
import Derived.Test.YtagpdceaononkaaWRd
import Derived.Test.YtagpdceaononkaaWOwn
namespace Go.Proofs.Ytagpdceaononkaa
open Go.RowKit

/-- A step while it is read: the answer's box, the step's own. -/
structure Sb (R : Nat) (ba : Option Addr) (bc : Nat) (zs : List Int) (w : World) (q : Nat) (vs : List Value) (wr : World) : Prop where
  rd : Rd R ba bc zs q wr
  b0 : Fx w.heap.size 52 [.int .i64 0, .int .i64 0, .int .i64 0, .int .i64 0, .slice none 0 0] wr
  b1 : Fx (w.heap.size + 1) 52 vs wr
  fr : Fr (fun k => k = R ∨ w.heap.size ≤ k) w wr
section
variable {R : Nat} {ba : Option Addr} {bc : Nat} {zs : List Int} {w wr w2 : World} {q q2 : Nat} {vs : List Value}
theorem Sb.go (h : Sb R ba bc zs w q vs wr) (hR : R < w.heap.size) (hr : Rd R ba bc zs q2 w2) (hf : Fr (fun k => k = R) wr w2) : Sb R ba bc zs w q2 vs w2 :=
  ⟨hr, h.b0.keep (hf.block _ h.b0.lt (by omega)), h.b1.keep (hf.block _ h.b1.lt (by omega)), h.fr.trans (hf.mono fun _ _ e => .inl e)⟩
theorem Sb.set (h : Sb R ba bc zs w q vs wr) (hR : R < w.heap.size) (i : Nat) (v : Value) : Sb R ba bc zs w q (vs.set i v) (wr.setCell ⟨w.heap.size + 1, i, none⟩ v) :=
  ⟨h.rd.keep fun g hg => other_set (by omega), h.b0.keep (other_set (by omega)), h.b1.set i v, h.fr.trans (.setCell ⟨w.heap.size + 1, i, none⟩ _ (.inr (Nat.le_succ _)))⟩
theorem Sb.in (h : Sb R ba bc zs w q vs wr) (hf : Fr (fun k => k = R) wr w2) : Fr (fun k => k = R) w w2 := (h.fr.trans (hf.mono fun _ _ e => .inl e)).mono fun k hk e => e.elim id fun h => absurd hk (by omega)
theorem Sb.lt (h : Sb R ba bc zs w q vs wr) : w.heap.size + 1 < wr.heap.size := h.b1.lt
end
/-- What a step's reading answers. -/
def vS (B : Nat) (w' : World) (s : StM) (v : Value) : Prop := ∃ ca cc, v = stv s ca cc ∧ w'.ownsRow B 54 2 (.slice ca s.ch.length cc) s.ch.length (chL s.ch)
theorem chs_more {zs : List Int} {k n : Nat} {acc : List (Int × Int)} {q : Nat} (h : k < n) : chsM zs (n - k) acc q = raiM zs 15 q >>= fun x => raiM zs 4095 x.2 >>= fun y => chsM zs (n - (k + 1)) (acc ++ [(x.1, y.1)]) y.2 := by rw [show n - k = (n - (k + 1)) + 1 by omega, chsM]
theorem bind_as {α β γ : Type} (o : Er α) (f : α → Er β) (g : β → Er γ) : (o >>= f) >>= g = o >>= fun x => f x >>= g := by cases o <;> rfl
set_option maxRecDepth 100000 in
set_option maxHeartbeats 12800000 in
theorem stp_any {R : Nat} {ba : Option Addr} {bc : Nat} {zs : List Int} {p : Nat} {w : World} (h : Rd R ba bc zs p w) :
    Calls Try.prog 49 #[ptr R] w fun e w' => Eo R ba bc zs w (vS w.heap.size) (stpM zs p) e w' := by
  obtain ⟨iC, hiC, zC0, zC1, zC2⟩ := info_parts' infoCh
  obtain ⟨o, ho⟩ : ∃ o, stpM zs p = o := ⟨_, rfl⟩
  rw [ho]
  unfold stpM at ho
  have HO := hide ho
  have hR := h.lt
  have HBy := hide h.bytes
  have hA := below_new w (.cells #[.int .i64 0, .int .i64 0, .int .i64 0, .int .i64 0, .slice none 0 0] 52)
  have hB := hA.alloc hA.size (.cells #[.int .i64 0, .int .i64 0, .int .i64 0, .int .i64 0, .slice none 0 0] 52)
  have HS : Hid (Sb R ba bc zs w p [.int .i64 0, .int .i64 0, .int .i64 0, .int .i64 0, .slice none 0 0] ((w.alloc (.cells #[.int .i64 0, .int .i64 0, .int .i64 0, .int .i64 0, .slice none 0 0] 52)).alloc (.cells #[.int .i64 0, .int .i64 0, .int .i64 0, .int .i64 0, .slice none 0 0] 52))) :=
    hide ⟨h.below hB, heap_alloc2_old _ _ _, heap_alloc2_new _ _ _, .of_below hB⟩
  clear h ho hA hB
  go_enter Try.func49, Try.ntmps49
  go_upto_region 2 with fail
  generalize (w.alloc (.cells #[.int .i64 0, .int .i64 0, .int .i64 0, .int .i64 0, .slice none 0 0] 52)).alloc (.cells #[.int .i64 0, .int .i64 0, .int .i64 0, .int .i64 0, .slice none 0 0] 52) = W at *
  -- the tag
  have CN := hide (octet_any HS.out.rd (a := 1) (b := 4))
  go_wp2_with fail
  refine CN.out.mono ?_
  intro e w1 hE
  rcases hE.split with ⟨tg, q1, v, e1, rfl, e2, e3, e4⟩ | ⟨c, p', e1, rfl, e4⟩
  rotate_left
  · exact on_panic rfl (Eo.no (bind_no HO.out e1) (HS.out.in e4))
  rw [vZ] at e2
  subst e2
  have HO1 := hide (bind_ok HO.out e1)
  have HS1 := hide (HS.out.go hR e3 e4)
  clear hE e1 e3 e4 HO HS CN
  have k0 := HS1.out.b1.get (i := 0) rfl
  have f0 := HS1.out.b1.frz 0
  have HS2 := hide (HS1.out.set hR 0 (.int .i64 tg))
  go_upto_region 3 with fail
  generalize w1.setCell ⟨w.heap.size + 1, 0, none⟩ (.int .i64 tg) = W1 at *
  clear k0 f0 HS1
  -- the literal
  have CN := hide (number_any HS2.out.rd (most := 4095) (by omega) (by omega))
  go_wp2_with fail
  refine CN.out.mono ?_
  intro e w1 hE
  rcases hE.split with ⟨lt, q2, v, e1, rfl, e2, e3, e4⟩ | ⟨c, p', e1, rfl, e4⟩
  rotate_left
  · exact on_panic rfl (Eo.no (bind_no HO1.out e1) (HS2.out.in e4))
  rw [vZ] at e2
  subst e2
  have HO2 := hide (bind_ok HO1.out e1)
  have HS3 := hide (HS2.out.go hR e3 e4)
  clear hE e1 e3 e4 HO1 HS2 CN
  have k0 := HS3.out.b1.get (i := 1) rfl
  have f0 := HS3.out.b1.frz 1
  have HS4 := hide (HS3.out.set hR 1 (.int .i64 lt))
  go_upto_region 4 with fail
  generalize w1.setCell ⟨w.heap.size + 1, 1, none⟩ (.int .i64 lt) = W2 at *
  clear k0 f0 HS3
  -- how
  have CN := hide (octet_any HS4.out.rd (a := 1) (b := 5))
  go_wp2_with fail
  refine CN.out.mono ?_
  intro e w1 hE
  rcases hE.split with ⟨hw, q3, v, e1, rfl, e2, e3, e4⟩ | ⟨c, p', e1, rfl, e4⟩
  rotate_left
  · exact on_panic rfl (Eo.no (bind_no HO2.out e1) (HS4.out.in e4))
  rw [vZ] at e2
  subst e2
  have HO3 := hide (bind_ok HO2.out e1)
  have HS5 := hide (HS4.out.go hR e3 e4)
  clear hE e1 e3 e4 HO2 HS4 CN
  have k0 := HS5.out.b1.get (i := 2) rfl
  have f0 := HS5.out.b1.frz 2
  have HS6 := hide (HS5.out.set hR 2 (.int .i64 hw))
  go_upto_region 5 with fail
  generalize w1.setCell ⟨w.heap.size + 1, 2, none⟩ (.int .i64 hw) = W3 at *
  clear k0 f0 HS5
  -- the rule
  have CN := hide (raised_any HS6.out.rd (most := 4095) (by omega) (by omega))
  go_wp2_with fail
  refine CN.out.mono ?_
  intro e w1 hE
  rcases hE.split with ⟨ru, q4, v, e1, rfl, e2, e3, e4⟩ | ⟨c, p', e1, rfl, e4⟩
  rotate_left
  · exact on_panic rfl (Eo.no (bind_no HO3.out e1) (HS6.out.in e4))
  rw [vZ] at e2
  subst e2
  have HO4 := hide (bind_ok HO3.out e1)
  have HS7 := hide (HS6.out.go hR e3 e4)
  clear hE e1 e3 e4 HO3 HS6 CN
  have k0 := HS7.out.b1.get (i := 3) rfl
  have f0 := HS7.out.b1.frz 3
  have HS8 := hide (HS7.out.set hR 3 (.int .i64 ru))
  simp only [List.set_cons_zero, List.set_cons_succ] at HS8
  go_upto_region 6 with fail
  generalize w1.setCell ⟨w.heap.size + 1, 3, none⟩ (.int .i64 ru) = W4 at *
  clear k0 f0 HS7
  -- how many choices
  have CN := hide (number_any HS8.out.rd (most := 4096) (by omega) (by omega))
  go_wp2_with fail
  refine CN.out.mono ?_
  intro e w1 hE
  rcases hE.split with ⟨nc, q5, v, e1, rfl, e2, e3, e4⟩ | ⟨c, p', e1, rfl, e4⟩
  rotate_left
  · exact on_panic rfl (Eo.no (bind_no HO4.out e1) (HS8.out.in e4))
  rw [vZ] at e2
  subst e2
  obtain ⟨n0, n1⟩ := num_in HBy.out (by omega) e1
  obtain ⟨n, rfl⟩ := Int.eq_ofNat_of_zero_le n0
  have HO5 : Hid ((chsM zs (n - 0) [] q5 >>= fun c => .ok ((⟨tg, lt, hw, ru, c.1⟩ : StM), c.2)) = o) := hide (by have h5 := bind_ok HO4.out e1; rw [Nat.sub_zero]; exact h5)
  have HS9 := hide (HS8.out.go hR e3 e4)
  clear hE e1 e3 e4 HO4 HS8 CN n0
  go_wp2_with fail
  go_loopw [20] (fun x wr => ∃ (k : Nat) (acc : List (Int × Int)) (a : Option Addr) (c q : Nat), k ≤ n ∧ x = .int .i64 k ∧ Hid (acc.length = k) ∧ Hid (wr.ownsRow (w.heap.size + 2) 54 2 (.slice a acc.length c) acc.length (chL acc)) ∧ Hid (Sb R ba bc zs w q [.int .i64 tg, .int .i64 lt, .int .i64 hw, .int .i64 ru, .slice a acc.length c] wr) ∧ Hid ((chsM zs (n - k) acc q >>= fun c => .ok ((⟨tg, lt, hw, ru, c.1⟩ : StM), c.2)) = o)) (fun x _ => n - (intOf x).toNat)
  case atStart => exact ⟨0, [], none, 0, q5, by omega, rfl, rfl, hide ⟨rfl, .inl ⟨rfl, rfl⟩⟩, HS9, HO5⟩
  case round =>
    clear HS9 HO5
    obtain ⟨k, acc, a, c, q, hk, rfl, HAl, HRow, HS, HO⟩ := hrel
    by_cases hlt : k < n
    · have HO1 : Hid ((raiM zs 15 q >>= fun x => (raiM zs 4095 x.2 >>= fun y => chsM zs (n - (k + 1)) (acc ++ [(x.1, y.1)]) y.2) >>= fun c => .ok ((⟨tg, lt, hw, ru, c.1⟩ : StM), c.2)) = o) := hide (by have := HO.out; rw [chs_more hlt, bind_as] at this; exact this)
      have CN := hide (raised_any HS.out.rd (most := 15) (by omega) (by omega))
      clear HO
      go_wp2_with fail
      refine CN.out.mono ?_
      intro e w1 hE
      rcases hE.split with ⟨pl, q1, v, e1, rfl, e2, e3, e4⟩ | ⟨c, p', e1, rfl, e4⟩
      rotate_left
      · exact ⟨rfl, Eo.no (bind_no HO1.out e1) (HS.out.in e4)⟩
      rw [vZ] at e2
      subst e2
      have HO2 : Hid ((raiM zs 4095 q1 >>= fun y => chsM zs (n - (k + 1)) (acc ++ [(pl, y.1)]) y.2 >>= fun c => .ok ((⟨tg, lt, hw, ru, c.1⟩ : StM), c.2)) = o) := hide (by have := bind_ok HO1.out e1; rw [bind_as] at this; exact this)
      have HS1 := hide (HS.out.go hR e3 e4)
      have HR1 := hide (owns_keep HRow.out fun g hg => e4.block g (owns_lt HRow.out hg) (by have := (HRow.out.lt g hg).1; omega))
      clear hE e1 e3 e4 HO1 HS CN HRow
      have CN := hide (raised_any HS1.out.rd (most := 4095) (by omega) (by omega))
      go_wp2_with fail
      refine CN.out.mono ?_
      intro e w2 hE
      rcases hE.split with ⟨rl, q2, v, e1, rfl, e2, e3, e4⟩ | ⟨c, p', e1, rfl, e4⟩
      rotate_left
      · exact ⟨rfl, Eo.no (bind_no HO2.out e1) (HS1.out.in e4)⟩
      rw [vZ] at e2
      subst e2
      have HO3 : Hid ((chsM zs (n - (k + 1)) (acc ++ [(pl, rl)]) q2 >>= fun c => .ok ((⟨tg, lt, hw, ru, c.1⟩ : StM), c.2)) = o) := hide (by have h5 := bind_ok HO2.out e1; exact h5)
      have HS2 := hide (HS1.out.go hR e3 e4)
      have HR2 := hide (owns_keep HR1.out fun g hg => e4.block g (owns_lt HR1.out hg) (by have := (HR1.out.lt g hg).1; omega))
      clear hE e1 e3 e4 HO2 HS1 CN HR1
      have hal : acc.length ≤ 4096 := by rw [HAl.out]; omega
      have hlt2 := HS2.out.lt
      have k4 := HS2.out.b1.get (i := 4) rfl
      have hA := below_new w2 (.cells #[.int .i64 pl, .int .i64 rl] 54)
      have HRA := hide (owns_keep HR2.out fun g hg => hA.block g (owns_lt HR2.out hg))
      have hne : Value.ownBlock (.slice a acc.length c) ≠ some (w.heap.size + 1) := fun e => by have := (HR2.out.lt _ e).1; omega
      have hne0 : Value.ownBlock (.slice a acc.length c) ≠ some w.heap.size := fun e => by have := (HR2.out.lt _ e).1; omega
      have hneR : ∀ g, g ≤ R → Value.ownBlock (.slice a acc.length c) ≠ some g := fun g hg e => by have := (HR2.out.lt _ e).1; omega
      have HNE := hide (And.intro hne (And.intro hne0 hneR))
      clear hA hne hne0 hneR
      go_upto_region 11 with (at_builtin; go_must (refine wpList_append_two _ rfl _ _ 50 rfl (w.heap.size + 2) 54 iC _ 2 16 Try.underlying50 hiC zC0 zC1 zC2 rfl (by decide) _ _ (chL acc) rfl HRA.out ⟨w2.heap.size, 0, none⟩ 1 [.int .i64 pl, .int .i64 rl] rfl rfl (news_at rfl) (by intro u hu; simp at hu; rcases hu with rfl | rfl <;> rfl) (by unfold maxLen; omega) (by omega) (by simp; omega) ?_); intro g4 cap4 w4 hown4 hg4; have hg5 : (Value.ownBlock (.slice a acc.length c) = some g4 ∧ (w2.alloc (.cells #[.int .i64 pl, .int .i64 rl] 54)).grownBy w4 (some g4)) ∨ (g4 = w2.heap.size + 1 ∧ (w2.alloc (.cells #[.int .i64 pl, .int .i64 rl] 54)).grownBy w4 none) := (by rcases hg4 with h | ⟨h1, h2⟩; exact .inl h; exact .inr ⟨by simpa using h1, h2⟩); have HG5 := hide hg5; have HO4 := hide hown4; have j4 : w4.cell? ⟨w.heap.size + 1, 4, none⟩ = some (.slice a acc.length c) := (HS2.out.b1.keep (grown_old rfl hg5 (by omega) HNE.out.1)).get rfl; have j5 : w4.frozen? ⟨w.heap.size + 1, 4, none⟩ = false := (HS2.out.b1.keep (grown_old rfl hg5 (by omega) HNE.out.1)).frz 4; clear hown4 hg4 hg5)
      have HS4 : Hid (Sb R ba bc zs w q2 [.int .i64 tg, .int .i64 lt, .int .i64 hw, .int .i64 ru, .slice a acc.length c] w4) := hide ⟨HS2.out.rd.keep fun g hg => grown_old rfl HG5.out (by omega) (HNE.out.2.2 g hg), HS2.out.b0.keep (grown_old rfl HG5.out (by omega) HNE.out.2.1), HS2.out.b1.keep (grown_old rfl HG5.out (by omega) HNE.out.1), HS2.out.fr.trans (grown_fr rfl HG5.out fun g e => .inr (by have := (HR2.out.lt g e).1; omega))⟩
      have HS5 := hide (HS4.out.set hR 4 (.slice (some ⟨g4, 0, none⟩) (acc.length + 1) cap4))
      simp only [List.set_cons_zero, List.set_cons_succ] at HS5
      have HO5 : Hid ((w4.setCell ⟨w.heap.size + 1, 4, none⟩ (.slice (some ⟨g4, 0, none⟩) (acc.length + 1) cap4)).ownsRow (w.heap.size + 2) 54 2 (.slice (some ⟨g4, 0, none⟩) (acc ++ [(pl, rl)]).length cap4) (acc ++ [(pl, rl)]).length (chL (acc ++ [(pl, rl)]))) := hide (owns_keep (by rw [List.length_append, chL_app]; exact HO4.out) fun g hg => other_set (by have := (HO4.out.lt g hg).1; omega))
      clear j4 j5 k4 HS4 HS2 HG5 HNE HO4 HRA HR2
      generalize w4.setCell ⟨w.heap.size + 1, 4, none⟩ (.slice (some ⟨g4, 0, none⟩) (acc.length + 1) cap4) = w5 at *
      go_wp2_with fail
      go_roundw
      case rel => exact ⟨k + 1, acc ++ [(pl, rl)], some ⟨g4, 0, none⟩, cap4, q2, by omega, by go_num, hide (by rw [List.length_append, HAl.out]; rfl), HO5, hide (by rw [List.length_append]; exact HS5.out), HO3⟩
      case measure => simp [intOf]; omega
    · have HN : Hid (o = .ok ((⟨tg, lt, hw, ru, acc⟩ : StM), q)) := hide (by have := HO.out; rw [show n - k = 0 by omega] at this; exact this.symm)
      clear HO
      obtain ⟨r0, r1, r2, r3, r4⟩ := five_cells HS.out.b1
      obtain ⟨s0, s1, s2, s3, s4⟩ := five_cells HS.out.b0
      have hfz := HS.out.b0.frz
      have hltw := HS.out.lt
      have HB0 : Hid (Fx w.heap.size 52 [.int .i64 tg, .int .i64 lt, .int .i64 hw, .int .i64 ru, .slice a acc.length c] (((((wr.setCell ⟨w.heap.size, 0, none⟩ (.int .i64 tg)).setCell ⟨w.heap.size, 1, none⟩ (.int .i64 lt)).setCell ⟨w.heap.size, 2, none⟩ (.int .i64 hw)).setCell ⟨w.heap.size, 3, none⟩ (.int .i64 ru)).setCell ⟨w.heap.size, 4, none⟩ (.slice a acc.length c))) := hide (((((HS.out.b0.set 0 _).set 1 _).set 2 _).set 3 _).set 4 _)
      have HFr : Hid (Fr (fun k => k = w.heap.size) wr (((((wr.setCell ⟨w.heap.size, 0, none⟩ (.int .i64 tg)).setCell ⟨w.heap.size, 1, none⟩ (.int .i64 lt)).setCell ⟨w.heap.size, 2, none⟩ (.int .i64 hw)).setCell ⟨w.heap.size, 3, none⟩ (.int .i64 ru)).setCell ⟨w.heap.size, 4, none⟩ (.slice a acc.length c))) := hide (((((Fr.setCell (Z := fun k => k = w.heap.size) ⟨w.heap.size, 0, none⟩ _ rfl).trans (.setCell ⟨w.heap.size, 1, none⟩ _ rfl)).trans (.setCell ⟨w.heap.size, 2, none⟩ _ rfl)).trans (.setCell ⟨w.heap.size, 3, none⟩ _ rfl)).trans (.setCell ⟨w.heap.size, 4, none⟩ _ rfl))
      go_wp2_with fail
      generalize (((((wr.setCell ⟨w.heap.size, 0, none⟩ (.int .i64 tg)).setCell ⟨w.heap.size, 1, none⟩ (.int .i64 lt)).setCell ⟨w.heap.size, 2, none⟩ (.int .i64 hw)).setCell ⟨w.heap.size, 3, none⟩ (.int .i64 ru)).setCell ⟨w.heap.size, 4, none⟩ (.slice a acc.length c)) = w5 at *
      refine bodyPost_ret (results_cell_row rfl _ _ w.heap.size 52 #[.int .i64 tg, .int .i64 lt, .int .i64 hw, .int .i64 ru, .slice a acc.length c] _ _ rfl HB0.out Try.underlying52 rfl (by kernel_rfl)) rfl ?_
      have hf : Fr (fun k => k = R) w w5 := (HS.out.fr.trans (HFr.out.mono fun _ _ e => .inr (by omega))).mono fun k hk e => e.elim id fun h => absurd hk (by omega)
      refine Eo.yes HN.out ⟨a, c, rfl, ?_⟩ (HS.out.rd.keep fun g hg => HFr.out.block g (by omega) (by omega)) hf
      exact owns_down (owns_keep HRow.out fun g hg => HFr.out.block g (owns_lt HRow.out hg) (by have := (HRow.out.lt g hg).1; omega)) (by omega)
end Go.Proofs.Ytagpdceaononkaa
