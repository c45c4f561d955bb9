/- newCounters. (tools/gen14/nct.py wrote this.) -/
import Derived.Test.YtdholifacnnjcaaSay
import Derived.Deep.RegionLaw
import Derived.Deep.AppendLies
import Derived.Deep.CutRange
namespace Go.Proofs.Ytdholifacnnjcaa
open Go.RowKit

section
variable {wr w5 : World} {ob : Obj} {v : Value} {hb : Nat}
theorem grown_low (hgrow : (wr.alloc ob).drew.grownBy w5 v.ownBlock) (hv : ∀ g, v.ownBlock = some g → hb ≤ g) (hs : hb ≤ wr.heap.size) : Below hb wr w5 := by
  have h1 : Below hb wr (wr.alloc ob).drew := ((below_new wr ob).mono hs).drew
  refine h1.trans ⟨hgrow.os, hgrow.tape, hgrow.output, hgrow.size, fun k hk => hgrow.block k ?_ fun e => ?_⟩
  · have : (wr.alloc ob).drew.heap.size = wr.heap.size + 1 := by show (wr.alloc ob).heap.size = _; simp
    omega
  · have := hv k e.symm; omega
theorem grown_old2 (hgrow : (wr.alloc ob).drew.grownBy w5 v.ownBlock) {k : Nat} (hk : k < wr.heap.size) (hn : v.ownBlock ≠ some k) : w5.heap[k]? = wr.heap[k]? := by
  refine (hgrow.block k ?_ fun e => hn e.symm).trans ((below_new wr ob).block k hk)
  have : (wr.alloc ob).drew.heap.size = wr.heap.size + 1 := by show (wr.alloc ob).heap.size = _; simp
  omega
end
theorem alloc5 (w : World) (o0 o1 o2 o3 o4 : Obj) : Below w.heap.size w (((((w.alloc o0).alloc o1).alloc o2).alloc o3).alloc o4).drew ∧ (((((w.alloc o0).alloc o1).alloc o2).alloc o3).alloc o4).drew.heap[w.heap.size]? = some o0 ∧ (((((w.alloc o0).alloc o1).alloc o2).alloc o3).alloc o4).drew.heap[w.heap.size + 1]? = some o1 ∧ (((((w.alloc o0).alloc o1).alloc o2).alloc o3).alloc o4).drew.heap[w.heap.size + 1 + 1]? = some o2 ∧ (((((w.alloc o0).alloc o1).alloc o2).alloc o3).alloc o4).drew.heap[w.heap.size + 1 + 1 + 1]? = some o3 ∧ (((((w.alloc o0).alloc o1).alloc o2).alloc o3).alloc o4).drew.heap[w.heap.size + 1 + 1 + 1 + 1]? = some o4 := by
  obtain ⟨hb, e0, e1, e2, e3⟩ := alloc4 w o0 o1 o2 o3
  have s4 : ((((w.alloc o0).alloc o1).alloc o2).alloc o3).heap.size = w.heap.size + 1 + 1 + 1 + 1 := by simp
  have e4 := heap_alloc_new ((((w.alloc o0).alloc o1).alloc o2).alloc o3) o4
  rw [s4] at e4
  have k4 : ∀ g, g < ((((w.alloc o0).alloc o1).alloc o2).alloc o3).heap.size → (((((w.alloc o0).alloc o1).alloc o2).alloc o3).alloc o4).heap[g]? = ((((w.alloc o0).alloc o1).alloc o2).alloc o3).heap[g]? := fun g hg => Below.heap_alloc _ _ _ hg
  exact ⟨(((((((Below.refl _ w).alloc (Nat.le_refl _) _).alloc (by simp) _).alloc (by simp; omega) _).alloc (by simp; omega) _).alloc (by simp; omega) _)).drew, (k4 _ (by omega)).trans e0, (k4 _ (by omega)).trans e1, (k4 _ (by omega)).trans e2, (k4 _ (by omega)).trans e3, e4⟩
/-- The counters in memory, all of them behind N. -/
structure Nc (N kb mr fr oo ub n R : Nat) (ms op : List Int) (H : List (List Int)) (vs : List Value) (w : World) : Prop where
  kbx : Fx kb 64 [.slice (some ⟨mr, 0, none⟩) R R, .slice (some ⟨fr, 0, none⟩) R R, .slice (some ⟨oo, 0, none⟩) n n, .slice (some ⟨ub, 0, none⟩) n n] w
  mrw : Fx mr 3 (ints ms) w
  frw : Fx fr 4 (bools (List.replicate R false)) w
  orw : Fx oo 3 (ints op) w
  us : Hv ub n H vs w
  n4 : mr ≠ oo
  nu : ∀ (i : Nat) v g, vs[i]? = some v → v.ownBlock = some g → g ≠ mr ∧ g ≠ oo ∧ N ≤ g
  lo : N ≤ kb ∧ N ≤ mr ∧ N ≤ fr ∧ N ≤ oo ∧ N ≤ ub
section
variable {N kb mr fr oo ub n R : Nat} {ms op : List Int} {H : List (List Int)} {vs : List Value} {w w' : World}
theorem hv_rep {x n : Nat} {w : World} (h : w.heap[x]? = some (.cells (Array.replicate n (.slice none 0 0)) 26 (0, 0))) : Hv x n (List.replicate n []) (List.replicate n (.slice none 0 0)) w := by
  refine ⟨by simp, by simp, ?_, fun i l v h1 h2 => ?_, fun i j v u g h1 h2 h3 => ?_⟩
  · unfold Fx
    rw [h]
    simp
  · rw [List.getElem?_replicate] at h1 h2
    split at h1
    · rename_i hi
      rw [if_pos hi] at h2
      cases h1
      cases h2
      exact ⟨rfl, .inl ⟨rfl, rfl⟩⟩
    · cases h1
  · rw [List.getElem?_replicate] at h1
    split at h1
    · cases h1; cases h3
    · cases h1
theorem Nc.start (hk : w.heap[kb]? = some (.cells #[.slice (some ⟨mr, 0, none⟩) R R, .slice (some ⟨fr, 0, none⟩) R R, .slice (some ⟨oo, 0, none⟩) n n, .slice (some ⟨ub, 0, none⟩) n n] 64 (0, 0)))
    (h1 : w.heap[mr]? = some (.cells (Array.replicate R (.int .i64 0)) 3 (0, 0))) (h2 : w.heap[fr]? = some (.cells (Array.replicate R (.bool false)) 4 (0, 0))) (h3 : w.heap[oo]? = some (.cells (Array.replicate n (.int .i64 0)) 3 (0, 0))) (h4 : w.heap[ub]? = some (.cells (Array.replicate n (.slice none 0 0)) 26 (0, 0)))
    (lo : N ≤ kb ∧ N ≤ mr ∧ N ≤ fr ∧ N ≤ oo ∧ N ≤ ub) (ne : mr ≠ oo) : Nc N kb mr fr oo ub n R (List.replicate R 0) (List.replicate n 0) (List.replicate n []) (List.replicate n (.slice none 0 0)) w := by
  refine ⟨hk, ?_, ?_, ?_, hv_rep h4, ne, fun i v g hv hg => ?_, lo⟩
  · unfold Fx; rw [h1, ints_rep]
  · unfold Fx; rw [h2, bools_rep]
  · unfold Fx; rw [h3, ints_rep]
  · rw [List.getElem?_replicate] at hv
    split at hv
    · cases hv; cases hg
    · cases hv
theorem Nc.go (h : Nc N kb mr fr oo ub n R ms op H vs w) (hb : Below w.heap.size w w') : Nc N kb mr fr oo ub n R ms op H vs w' :=
  ⟨h.kbx.keep (hb.block _ h.kbx.lt), h.mrw.keep (hb.block _ h.mrw.lt), h.frw.keep (hb.block _ h.frw.lt), h.orw.keep (hb.block _ h.orw.lt), h.us.go hb, h.n4, h.nu, h.lo⟩
theorem Nc.miss (h : Nc N kb mr fr oo ub n R ms op H vs w) (i : Nat) (v : Int) : Nc N kb mr fr oo ub n R (ms.set i v) op H vs (w.setCell ⟨mr, i, none⟩ (.int .i64 v)) :=
  ⟨h.kbx.keep (other_set (fx_ne h.kbx h.mrw (by decide))), (by rw [← ints_set]; exact h.mrw.set i _), h.frw.keep (other_set (fx_ne h.frw h.mrw (by decide))), h.orw.keep (other_set (Ne.symm h.n4)), h.us.rep (other_set (fx_ne h.us.fx h.mrw (by decide))) (fun i v g hv hg => other_set (h.nu i v g hv hg).1), h.n4, h.nu, h.lo⟩
theorem Nc.opn (h : Nc N kb mr fr oo ub n R ms op H vs w) (i : Nat) (v : Int) : Nc N kb mr fr oo ub n R ms (op.set i v) H vs (w.setCell ⟨oo, i, none⟩ (.int .i64 v)) :=
  ⟨h.kbx.keep (other_set (fx_ne h.kbx h.orw (by decide))), h.mrw.keep (other_set h.n4), h.frw.keep (other_set (fx_ne h.frw h.orw (by decide))), (by rw [← ints_set]; exact h.orw.set i _), h.us.rep (other_set (fx_ne h.us.fx h.orw (by decide))) (fun i v g hv hg => other_set (h.nu i v g hv hg).2.1), h.n4, h.nu, h.lo⟩
/-- One number more in row i. -/
theorem Nc.use (h : Nc N kb mr fr oo ub n R ms op H vs w) {i : Nat} {l : List Int} {v : Value} (hi : H[i]? = some l) (hv : vs[i]? = some v) {x : Int} {g4 cap4 : Nat} (hnew : w'.ownsRow (ub + 1) 3 1 (.slice (some ⟨g4, 0, none⟩) (l.length + 1) cap4) (l.length + 1) (ints l ++ [.int .i64 x]))
    (hold : ∀ k, k < w.heap.size → v.ownBlock ≠ some k → w'.heap[k]? = w.heap[k]?) (hg : v.ownBlock = some g4 ∨ w.heap.size ≤ g4) :
    Nc N kb mr fr oo ub n R ms op (H.set i (l ++ [x])) (vs.set i (.slice (some ⟨g4, 0, none⟩) (l.length + 1) cap4)) (w'.setCell ⟨ub, i, none⟩ (.slice (some ⟨g4, 0, none⟩) (l.length + 1) cap4)) := by
  have hov := h.us.own i l v hi hv
  have kk := h.kbx.keep (hold _ h.kbx.lt (own_fx hov h.kbx (by decide)))
  have km := h.mrw.keep (hold _ h.mrw.lt fun e => (h.nu i v _ hv e).1 rfl)
  have kf := h.frw.keep (hold _ h.frw.lt (own_fx hov h.frw (by decide)))
  have ko := h.orw.keep (hold _ h.orw.lt fun e => (h.nu i v _ hv e).2.1 rfl)
  have ku := h.us.fx.keep (hold _ h.us.fx.lt (own_fx hov h.us.fx (by decide)))
  refine ⟨kk.keep (other_set (fx_ne kk ku (by decide))), km.keep (other_set (fx_ne km ku (by decide))), kf.keep (other_set (fx_ne kf ku (by decide))), ko.keep (other_set (fx_ne ko ku (by decide))), h.us.add hi hv hnew hold hg, h.n4, fun j u g hu hgu => ?_, h.lo⟩
  by_cases e : i = j
  · subst e
    rw [List.getElem?_set_self (by rw [h.us.vl, ← h.us.ln]; exact (List.getElem?_eq_some_iff.1 hi).1)] at hu
    cases hu
    have : g4 = g := by simpa [Value.ownBlock] using hgu
    subst this
    rcases hg with hg | hg
    · exact h.nu i v _ hv hg
    · have h1 := h.mrw.lt
      have h2 := h.orw.lt
      have h3 := h.kbx.lt
      have h4 := h.lo.1
      exact ⟨by omega, by omega, by omega⟩
  · rw [List.getElem?_set_ne e] at hu
    exact h.nu j u g hu hgu
end

set_option maxRecDepth 100000 in
set_option maxHeartbeats 12800000 in
theorem newCounters_any {w : World} {T : Th} {F : List Int} {n : Nat} {fa ra ba : Option Addr} {fc rc bc : Nat} (h : TA w.heap.size w T fa fc ra rc ba bc) (hw : Nm T F n) (hn : T.lits = (n : Int)) (hn4 : n ≤ 4096) (hrl : T.rules.length ≤ 4096) (hbl : ∀ r ∈ T.rules, r.body.length ≤ 16) :
    Calls Try.prog 26 #[tv T fa fc ra rc ba bc] w fun e w' => ∃ kb mr fr oo ub ms op H vs, e = .returned (ptr kb) ∧ Nc w.heap.size kb mr fr oo ub n T.rules.length ms op H vs w' ∧ Cnt T n T.rules.length ms op ∧ Usr T n T.rules.length [] H ∧ Below w.heap.size w w' := by
  obtain ⟨iI, hiI, zI0, zI1, zI2⟩ := info_parts infoI
  obtain ⟨iB, hiB, zB0, zB1, zB2⟩ := info_parts infoBo
  obtain ⟨iL, hiL, zL0, zL1, zL2⟩ := info_parts infoL
  have HW := hide hw
  have HBL := hide hbl
  have hB := below_new w (.cells #[.int .i64 T.lits, .slice fa T.foes.length fc, .slice ra T.rules.length rc, .slice ba T.beats.length bc] 25)
  have hX := heap_alloc_new w (.cells #[.int .i64 T.lits, .slice fa T.foes.length fc, .slice ra T.rules.length rc, .slice ba T.beats.length bc] 25)
  have HL := hide (TR.go hB h)
  have HB := hide hB
  have HX := hide hX
  have HN0 := hide hn
  obtain ⟨R, hR⟩ : ∃ R, T.rules.length = R := ⟨_, rfl⟩
  have HR := hide hR
  have hm1 := fun W => run_make_fix (P := Try.prog) Try.underlying26 hiI zI0 zI1 rfl R (by rw [zI2]; omega) (by unfold maxLen; omega) W
  have hm2 := fun W => run_make_fix (P := Try.prog) Try.underlying31 hiB zB0 zB1 rfl R (by rw [zB2]; omega) (by unfold maxLen; omega) W
  have hm3 := fun W => run_make_fix (P := Try.prog) Try.underlying26 hiI zI0 zI1 rfl n (by rw [zI2]; omega) (by unfold maxLen; omega) W
  have hm4 := fun W => run_make_fix (P := Try.prog) Try.underlying22 hiL zL0 zL1 rfl n (by rw [zL2]; omega) (by unfold maxLen; omega) W
  rw [hR] at hrl
  clear h hB hw hbl
  go_enter Try.func26, Try.ntmps26
  go_upto_region 1 with fail
  rw [hR, hn] at hX
  rw [hR, hn] at HX HL HB
  clear hn hR
  generalize w.alloc (.cells #[.int .i64 n, .slice fa T.foes.length fc, .slice ra R rc, .slice ba T.beats.length bc] 25) = W at *
  obtain ⟨-, c0, c1, c2, c3⟩ := Bt.of hX
  clear hX
  have hWlt : w.heap.size < W.heap.size := loc_lt HX.out
  have up : ∀ (X : World) (o : Obj) (i : Nat) (v : Value), w.heap.size < X.heap.size → X.cell? ⟨w.heap.size, i, none⟩ = some v → (X.alloc o).cell? ⟨w.heap.size, i, none⟩ = some v := fun X o i v hx hv => (World.cell?_of_block ((below_new X o).block _ hx)).trans hv
  have q1 := fun o1 => up W o1 0 _ hWlt c0
  have q2 := fun o1 => up W o1 2 _ hWlt c2
  have r1 := fun o1 o2 => up (W.alloc o1) o2 0 _ (by simp; omega) (q1 o1)
  have r2 := fun o1 o2 => up (W.alloc o1) o2 2 _ (by simp; omega) (q2 o1)
  have t1 := fun o1 o2 o3 => up ((W.alloc o1).alloc o2) o3 0 _ (by simp; omega) (r1 o1 o2)
  have t2 := fun o1 o2 o3 => up ((W.alloc o1).alloc o2) o3 2 _ (by simp; omega) (r2 o1 o2)
  clear up hWlt
  go_cut [3] from 8 to 23 (fun s wc => ∃ kb mr fr oo ub, s = ptr kb ∧ Hid (Nc W.heap.size kb mr fr oo ub n R (List.replicate R 0) (List.replicate n 0) (List.replicate n []) (List.replicate n (.slice none 0 0)) wc) ∧ Hid (Below W.heap.size W wc))
  case first =>
    go_region
    all_goals (go_wp2_with fail; go_meet)
    · exact ⟨_, _, _, _, _, rfl, hide (Nc.start (alloc5 W _ _ _ _ _).2.2.2.2.2 (alloc5 W _ _ _ _ _).2.1 (alloc5 W _ _ _ _ _).2.2.1 (alloc5 W _ _ _ _ _).2.2.2.1 (alloc5 W _ _ _ _ _).2.2.2.2.1 (by omega) (by omega)), hide (alloc5 W _ _ _ _ _).1⟩
    · exact ⟨_, _, _, _, _, rfl, hide (Nc.start (alloc5 W _ _ _ _ _).2.2.2.2.2 (alloc5 W _ _ _ _ _).2.1 (alloc5 W _ _ _ _ _).2.2.1 (alloc5 W _ _ _ _ _).2.2.2.2.1 (alloc5 W _ _ _ _ _).2.2.2.1 (by omega) (by omega)), hide (alloc5 W _ _ _ _ _).1⟩
    · exact ⟨_, _, _, _, _, rfl, hide (Nc.start (alloc5 W _ _ _ _ _).2.2.2.2.2 (alloc5 W _ _ _ _ _).2.1 (alloc5 W _ _ _ _ _).2.2.2.1 (alloc5 W _ _ _ _ _).2.2.1 (alloc5 W _ _ _ _ _).2.2.2.2.1 (by omega) (by omega)), hide (alloc5 W _ _ _ _ _).1⟩
    · exact ⟨_, _, _, _, _, rfl, hide (Nc.start (alloc5 W _ _ _ _ _).2.2.2.2.2 (alloc5 W _ _ _ _ _).2.1 (alloc5 W _ _ _ _ _).2.2.2.2.1 (alloc5 W _ _ _ _ _).2.2.1 (alloc5 W _ _ _ _ _).2.2.2.1 (by omega) (by omega)), hide (alloc5 W _ _ _ _ _).1⟩
    · exact ⟨_, _, _, _, _, rfl, hide (Nc.start (alloc5 W _ _ _ _ _).2.2.2.2.2 (alloc5 W _ _ _ _ _).2.1 (alloc5 W _ _ _ _ _).2.2.2.1 (alloc5 W _ _ _ _ _).2.2.2.2.1 (alloc5 W _ _ _ _ _).2.2.1 (by omega) (by omega)), hide (alloc5 W _ _ _ _ _).1⟩
    · exact ⟨_, _, _, _, _, rfl, hide (Nc.start (alloc5 W _ _ _ _ _).2.2.2.2.2 (alloc5 W _ _ _ _ _).2.1 (alloc5 W _ _ _ _ _).2.2.2.2.1 (alloc5 W _ _ _ _ _).2.2.2.1 (alloc5 W _ _ _ _ _).2.2.1 (by omega) (by omega)), hide (alloc5 W _ _ _ _ _).1⟩
    · exact ⟨_, _, _, _, _, rfl, hide (Nc.start (alloc5 W _ _ _ _ _).2.2.2.2.2 (alloc5 W _ _ _ _ _).2.2.1 (alloc5 W _ _ _ _ _).2.1 (alloc5 W _ _ _ _ _).2.2.2.1 (alloc5 W _ _ _ _ _).2.2.2.2.1 (by omega) (by omega)), hide (alloc5 W _ _ _ _ _).1⟩
    · exact ⟨_, _, _, _, _, rfl, hide (Nc.start (alloc5 W _ _ _ _ _).2.2.2.2.2 (alloc5 W _ _ _ _ _).2.2.1 (alloc5 W _ _ _ _ _).2.1 (alloc5 W _ _ _ _ _).2.2.2.2.1 (alloc5 W _ _ _ _ _).2.2.2.1 (by omega) (by omega)), hide (alloc5 W _ _ _ _ _).1⟩
    · exact ⟨_, _, _, _, _, rfl, hide (Nc.start (alloc5 W _ _ _ _ _).2.2.2.2.2 (alloc5 W _ _ _ _ _).2.2.2.1 (alloc5 W _ _ _ _ _).2.1 (alloc5 W _ _ _ _ _).2.2.1 (alloc5 W _ _ _ _ _).2.2.2.2.1 (by omega) (by omega)), hide (alloc5 W _ _ _ _ _).1⟩
    · exact ⟨_, _, _, _, _, rfl, hide (Nc.start (alloc5 W _ _ _ _ _).2.2.2.2.2 (alloc5 W _ _ _ _ _).2.2.2.2.1 (alloc5 W _ _ _ _ _).2.1 (alloc5 W _ _ _ _ _).2.2.1 (alloc5 W _ _ _ _ _).2.2.2.1 (by omega) (by omega)), hide (alloc5 W _ _ _ _ _).1⟩
    · exact ⟨_, _, _, _, _, rfl, hide (Nc.start (alloc5 W _ _ _ _ _).2.2.2.2.2 (alloc5 W _ _ _ _ _).2.2.2.1 (alloc5 W _ _ _ _ _).2.1 (alloc5 W _ _ _ _ _).2.2.2.2.1 (alloc5 W _ _ _ _ _).2.2.1 (by omega) (by omega)), hide (alloc5 W _ _ _ _ _).1⟩
    · exact ⟨_, _, _, _, _, rfl, hide (Nc.start (alloc5 W _ _ _ _ _).2.2.2.2.2 (alloc5 W _ _ _ _ _).2.2.2.2.1 (alloc5 W _ _ _ _ _).2.1 (alloc5 W _ _ _ _ _).2.2.2.1 (alloc5 W _ _ _ _ _).2.2.1 (by omega) (by omega)), hide (alloc5 W _ _ _ _ _).1⟩
    · exact ⟨_, _, _, _, _, rfl, hide (Nc.start (alloc5 W _ _ _ _ _).2.2.2.2.2 (alloc5 W _ _ _ _ _).2.2.1 (alloc5 W _ _ _ _ _).2.2.2.1 (alloc5 W _ _ _ _ _).2.1 (alloc5 W _ _ _ _ _).2.2.2.2.1 (by omega) (by omega)), hide (alloc5 W _ _ _ _ _).1⟩
    · exact ⟨_, _, _, _, _, rfl, hide (Nc.start (alloc5 W _ _ _ _ _).2.2.2.2.2 (alloc5 W _ _ _ _ _).2.2.1 (alloc5 W _ _ _ _ _).2.2.2.2.1 (alloc5 W _ _ _ _ _).2.1 (alloc5 W _ _ _ _ _).2.2.2.1 (by omega) (by omega)), hide (alloc5 W _ _ _ _ _).1⟩
    · exact ⟨_, _, _, _, _, rfl, hide (Nc.start (alloc5 W _ _ _ _ _).2.2.2.2.2 (alloc5 W _ _ _ _ _).2.2.2.1 (alloc5 W _ _ _ _ _).2.2.1 (alloc5 W _ _ _ _ _).2.1 (alloc5 W _ _ _ _ _).2.2.2.2.1 (by omega) (by omega)), hide (alloc5 W _ _ _ _ _).1⟩
    · exact ⟨_, _, _, _, _, rfl, hide (Nc.start (alloc5 W _ _ _ _ _).2.2.2.2.2 (alloc5 W _ _ _ _ _).2.2.2.2.1 (alloc5 W _ _ _ _ _).2.2.1 (alloc5 W _ _ _ _ _).2.1 (alloc5 W _ _ _ _ _).2.2.2.1 (by omega) (by omega)), hide (alloc5 W _ _ _ _ _).1⟩
    · exact ⟨_, _, _, _, _, rfl, hide (Nc.start (alloc5 W _ _ _ _ _).2.2.2.2.2 (alloc5 W _ _ _ _ _).2.2.2.1 (alloc5 W _ _ _ _ _).2.2.2.2.1 (alloc5 W _ _ _ _ _).2.1 (alloc5 W _ _ _ _ _).2.2.1 (by omega) (by omega)), hide (alloc5 W _ _ _ _ _).1⟩
    · exact ⟨_, _, _, _, _, rfl, hide (Nc.start (alloc5 W _ _ _ _ _).2.2.2.2.2 (alloc5 W _ _ _ _ _).2.2.2.2.1 (alloc5 W _ _ _ _ _).2.2.2.1 (alloc5 W _ _ _ _ _).2.1 (alloc5 W _ _ _ _ _).2.2.1 (by omega) (by omega)), hide (alloc5 W _ _ _ _ _).1⟩
    · exact ⟨_, _, _, _, _, rfl, hide (Nc.start (alloc5 W _ _ _ _ _).2.2.2.2.2 (alloc5 W _ _ _ _ _).2.2.1 (alloc5 W _ _ _ _ _).2.2.2.1 (alloc5 W _ _ _ _ _).2.2.2.2.1 (alloc5 W _ _ _ _ _).2.1 (by omega) (by omega)), hide (alloc5 W _ _ _ _ _).1⟩
    · exact ⟨_, _, _, _, _, rfl, hide (Nc.start (alloc5 W _ _ _ _ _).2.2.2.2.2 (alloc5 W _ _ _ _ _).2.2.1 (alloc5 W _ _ _ _ _).2.2.2.2.1 (alloc5 W _ _ _ _ _).2.2.2.1 (alloc5 W _ _ _ _ _).2.1 (by omega) (by omega)), hide (alloc5 W _ _ _ _ _).1⟩
    · exact ⟨_, _, _, _, _, rfl, hide (Nc.start (alloc5 W _ _ _ _ _).2.2.2.2.2 (alloc5 W _ _ _ _ _).2.2.2.1 (alloc5 W _ _ _ _ _).2.2.1 (alloc5 W _ _ _ _ _).2.2.2.2.1 (alloc5 W _ _ _ _ _).2.1 (by omega) (by omega)), hide (alloc5 W _ _ _ _ _).1⟩
    · exact ⟨_, _, _, _, _, rfl, hide (Nc.start (alloc5 W _ _ _ _ _).2.2.2.2.2 (alloc5 W _ _ _ _ _).2.2.2.2.1 (alloc5 W _ _ _ _ _).2.2.1 (alloc5 W _ _ _ _ _).2.2.2.1 (alloc5 W _ _ _ _ _).2.1 (by omega) (by omega)), hide (alloc5 W _ _ _ _ _).1⟩
    · exact ⟨_, _, _, _, _, rfl, hide (Nc.start (alloc5 W _ _ _ _ _).2.2.2.2.2 (alloc5 W _ _ _ _ _).2.2.2.1 (alloc5 W _ _ _ _ _).2.2.2.2.1 (alloc5 W _ _ _ _ _).2.2.1 (alloc5 W _ _ _ _ _).2.1 (by omega) (by omega)), hide (alloc5 W _ _ _ _ _).1⟩
    · exact ⟨_, _, _, _, _, rfl, hide (Nc.start (alloc5 W _ _ _ _ _).2.2.2.2.2 (alloc5 W _ _ _ _ _).2.2.2.2.1 (alloc5 W _ _ _ _ _).2.2.2.1 (alloc5 W _ _ _ _ _).2.2.1 (alloc5 W _ _ _ _ _).2.1 (by omega) (by omega)), hide (alloc5 W _ _ _ _ _).1⟩
  case rest =>
    obtain ⟨kb, mr, fr, oo, ub, rfl, HNC, HBc⟩ := hcut
    clear hm1 hm2 hm3 hm4 q1 q2 r1 r2 t1 t2 c0 c1 c2 c3
    have HX1 := hide ((HBc.out.block _ (loc_lt HX.out)).trans HX.out)
    have hQW : w.heap.size < W.heap.size := loc_lt HX.out
    have HRU := hide HL.out.rules
    clear HX HL
    obtain ⟨-, c0, c1, c2, c3⟩ := Bt.of HX1.out
    go_upto_region 3 with fail
    clear c0 c1 c2 c3
    go_loopw [27] (fun x wr => ∃ (k : Nat) (ms op : List Int) (H : List (List Int)) (vs : List Value), k ≤ R ∧ x = .int .i64 k ∧ Hid (Cnt T n k ms op) ∧ Hid (Usr T n k [] H) ∧ Hid (Nc W.heap.size kb mr fr oo ub n R ms op H vs wr) ∧ Hid (Below W.heap.size W wr)) (fun x _ => R - (intOf x).toNat)
    case atStart => exact ⟨0, _, _, _, _, by omega, rfl, hide (by rw [← HR.out]; exact Cnt.start T n), hide (Usr.start T n), HNC, HBc⟩
    case round =>
      clear HNC
      obtain ⟨k, ms, op, H, vs, hk, rfl, HCN, HUS, HNC, HBr⟩ := hrel
      by_cases hlt : k < R
      · obtain ⟨r, hr⟩ := get_at (l := T.rules) (i := k) (by rw [HR.out]; exact hlt)
        obtain ⟨gr, go, bd, bp, rfl, hgr, x0, x1, x2, -, hbl, hbody⟩ := at_R (Rules.keep HBr.out.block HRU.out) hr
        have hmem := List.mem_of_getElem? hr
        have hA := below_new wr (.cells #[.int .i64 r.kind, .int .i64 r.head, .slice bd r.body.length bp] 36)
        have HNq := hide (HNC.out.go hA)
        have HBq := hide (HBr.out.trans (hA.mono HBr.out.size))
        have HQ : Hid (Fx wr.heap.size 36 [.int .i64 r.kind, .int .i64 r.head, .slice bd r.body.length bp] (wr.alloc (.cells #[.int .i64 r.kind, .int .i64 r.head, .slice bd r.body.length bp] 36))) := hide (heap_alloc_new wr _)
        have HRr := hide hr
        have hWr : W.heap.size ≤ wr.heap.size := HBr.out.size
        by_cases hk1 : r.kind = 1
        · have hb16 := HBL.out r hmem
          have hh := HW.out.head r hmem
          have HBI := hide (HW.out.body r hmem)
          have HND := hide (HW.out.nd r hmem)
          have HBD := hide (hbody.keep fun g hg => (HBr.out.block g hg).symm)
          obtain ⟨hm, hhm⟩ := Int.eq_ofNat_of_zero_le hh.1
          have hmn : hm < n := by omega
          have HK1 := hide hk1
          have HHM := hide hhm
          clear hr hmem hbody hA HNC hh hbl
          rw [hhm, hk1] at HQ HNq HBq
          rw [hhm] at x1
          rw [hk1] at x0
          clear hhm hk1
          go_upto_region 6 with fail
          generalize wr.alloc (.cells #[.int .i64 1, .int .i64 hm, .slice bd r.body.length bp] 36) = wq at *
          generalize hq : wr.heap.size = q at *
          clear x0 x1 x2
          have k0 := HNq.out.kbx.get (i := 0) rfl
          have y2 := HQ.out.get (i := 2) rfl
          have cm := HNq.out.mrw.get (int_at (l := ms) (k := k) (by rw [HCN.out.lm, HR.out]; exact hlt))
          have fm := HNq.out.mrw.frz k
          have HN2 := hide (HNq.out.miss k r.body.length)
          have HB2 := hide (HBq.out.setCell (p := ⟨mr, k, none⟩) HNq.out.lo.2.1 (.int .i64 r.body.length))
          have HQ2 := hide (HQ.out.keep (other_set (i := k) (v := .int .i64 r.body.length) (fx_ne HQ.out HNq.out.mrw (by decide))))
          clear HBq HQ
          go_region
          go_upto_region 7 with fail
          clear k0 y2 cm fm HNq
          replace HN2 := hide (HN2.out.go (Below.refl _ _).drew)
          replace HB2 := hide (HB2.out.drew)
          replace HQ2 := hide (show Fx q 36 [.int .i64 1, .int .i64 hm, .slice bd r.body.length bp] (wq.setCell ⟨mr, k, none⟩ (.int .i64 r.body.length)).drew from HQ2.out)
          generalize (wq.setCell ⟨mr, k, none⟩ (.int .i64 r.body.length)).drew = w2 at *
          have k2 := HN2.out.kbx.get (i := 2) rfl
          have y1 := HQ2.out.get (i := 1) rfl
          have co := HN2.out.orw.get (int_at (l := op) (k := hm) (by rw [HCN.out.lo]; exact hmn))
          have fo := HN2.out.orw.frz hm
          have hop := HCN.out.op_le hmn
          have HN3 := hide (HN2.out.opn hm (op.getD hm 0 + 1))
          have HB3 := hide (HB2.out.setCell (p := ⟨oo, hm, none⟩) HN2.out.lo.2.2.2.1 (.int .i64 (op.getD hm 0 + 1)))
          have HQ3 := hide (HQ2.out.keep (other_set (i := hm) (v := .int .i64 (op.getD hm 0 + 1)) (fx_ne HQ2.out HN2.out.orw (by decide))))
          have HCN3 : Hid (Cnt T n (k + 1) (ms.set k r.body.length) (op.set hm (op.getD hm 0 + 1))) := hide (by
            have := HCN.out.next HRr.out HK1.out (by rw [HHM.out]; omega)
            rw [HHM.out] at this
            exact this)
          clear HB2 HQ2
          generalize op.getD hm 0 = ov at *
          have hwr : IntKind.i64.wrap (ov + 1) = ov + 1 := IntWalk.i64_in _ (by omega)
          go_region
          go_upto_region 8 with fail
          clear k2 y1 co fo hop HN2 hwr
          replace HN3 := hide (HN3.out.go (Below.refl _ _).drew)
          replace HB3 := hide (HB3.out.drew)
          replace HQ3 := hide (show Fx q 36 [.int .i64 1, .int .i64 hm, .slice bd r.body.length bp] (w2.setCell ⟨oo, hm, none⟩ (.int .i64 (ov + 1))).drew from HQ3.out)
          generalize (w2.setCell ⟨oo, hm, none⟩ (.int .i64 (ov + 1))).drew = w3 at *
          have y2 := HQ3.out.get (i := 2) rfl
          go_upto_region 9 with fail
          clear y2
          generalize ms.set k (r.body.length : Int) = ms3 at *
          generalize op.set hm (ov + 1) = op3 at *
          go_loopw [57] (fun x ws => ∃ (j : Nat) (G : List (List Int)) (vs : List Value), j ≤ r.body.length ∧ x = .int .i64 j ∧ Hid (Usr T n k (r.body.take j) G) ∧ Hid (Nc W.heap.size kb mr fr oo ub n R ms3 op3 G vs ws) ∧ Hid (Below W.heap.size W ws)) (fun x _ => r.body.length - (intOf x).toNat)
          case atStart => exact ⟨0, H, vs, by omega, rfl, HUS, HN3, HB3⟩
          case round =>
            clear HUS HN3 HB3 HQ3
            obtain ⟨j, G, vs, hj, rfl, HUS, HNC, HBs⟩ := hrel
            by_cases hjl : j < r.body.length
            · obtain ⟨x, hx⟩ := get_at hjl
              obtain ⟨gx, ox, rfl, hgx, cx⟩ := at_I (HBD.out.keep HBs.out.block) hx
              obtain ⟨hx0, hx1⟩ := HBI.out x (List.mem_of_getElem? hx)
              obtain ⟨xm, rfl⟩ := Int.eq_ofNat_of_zero_le hx0
              have hxn : xm < n := by omega
              obtain ⟨m, ma, mc, hm1, hvm, cm, om⟩ := HNC.out.us.at hxn
              have hml := HUS.out.row_le hm1
              have HU2 : Hid (Usr T n k (r.body.take (j + 1)) (G.set xm (m ++ [(k : Int)]))) := hide (by
                have hnx : (xm : Int) ∉ r.body.take j := by
                  intro hin
                  have h2 := HND.out
                  rw [← List.take_append_drop (j + 1) r.body, take_snoc hx] at h2
                  exact (List.nodup_append.1 (List.nodup_append.1 h2).1).2.2 _ hin (xm : Int) (by simp) rfl
                have := HUS.out.add hxn hnx
                rw [List.getD_eq_getElem?_getD, hm1] at this
                rw [take_snoc hx]
                exact this)
              have k3 := HNC.out.kbx.get (i := 3) rfl
              have fz := HNC.out.us.fx.frz xm
              have hA := below_new wr (.cells #[.int .i64 k] 3)
              have hbs : ub + 1 ≤ wr.heap.size := HNC.out.us.fx.lt
              have HVA := hide (HNC.out.go hA)
              have HOM := hide (owns_keep om fun g hg => hA.block g (owns_lt om hg))
              have cmA := HVA.out.us.fx.get hvm
              have fzA := HVA.out.us.fx.frz xm
              have kA := HVA.out.kbx.get (i := 3) rfl
              have HSA : Hid ((wr.alloc (.cells #[.int .i64 k] 3)).drew.heap.size = wr.heap.size + 1) := hide (by show (wr.alloc (.cells #[.int .i64 k] 3)).heap.size = _; simp)
              have HNA : Hid (∀ j u, [Value.int .i64 k][j]? = some u → (wr.alloc (.cells #[.int .i64 k] 3)).drew.cell? ((⟨wr.heap.size, 0, none⟩ : Addr).add j) = some u) := hide (World.news_of_block (cs := [Value.int .i64 k].toArray) (t := 3) (fr := (0, 0)) (heap_alloc_new wr (.cells #[.int .i64 k] 3)))
              have HNE : Hid (Value.ownBlock (.slice ma m.length mc) ≠ some ub) := hide (own_fx om HNC.out.us.fx (by decide))
              have HNK : Hid (Value.ownBlock (.slice ma m.length mc) ≠ some kb) := hide (own_fx om HNC.out.kbx (by decide))
              have HHI : Hid (∀ g, Value.ownBlock (.slice ma m.length mc) = some g → W.heap.size ≤ g) := hide fun g e => (HNC.out.nu xm _ g hvm e).2.2
              have HM := hide hm1
              have HVM := hide hvm
              have HWs := hide HBs.out.size
              clear hx hx0 hx1 hA hm1 hvm om
              go_upto_region 11 with fail
              go_region_law (refine step_append_lies _ (by rfl) _ _ _ (by rfl) (ub + 1) 3 iI _ 1 8 Try.underlying26 hiI zI0 zI1 zI2 rfl (by decide) (.slice ma m.length mc) m.length (ints m) (by rfl) HOM.out ⟨wr.heap.size, 0, none⟩ 1 1 [.int .i64 k] (by rfl) rfl HNA.out (by simp [Value.oneCell']) (by decide) (by unfold maxLen; omega) (by omega) (by rw [HSA.out]; omega) (wr.heap.size + 1) HSA.out ?_; intro gg cap w5 hown hgrow hat hlt5; have f5 := HNC.out.us.fx.keep (grown_old2 hgrow HNC.out.us.fx.lt HNE.out); have q1 := f5.get HVM.out; have q2 := f5.frz xm; have q3 := (HNC.out.kbx.keep (grown_old2 hgrow HNC.out.kbx.lt HNK.out)).get (i := 3) rfl; clear f5)
              all_goals
                have HN5 := hide (HNC.out.use HM.out HVM.out hown (fun k hk hn => grown_old2 hgrow hk hn) (by rcases hat with h | h; exact .inl h; exact .inr (by omega)))
                have HB5 := hide (HBs.out.trans ((grown_low hgrow HHI.out HWs.out).setCell (p := ⟨ub, xm, none⟩) HNC.out.lo.2.2.2.2 (.slice (some ⟨gg, 0, none⟩) (m.length + 1) cap)))
                clear hown hgrow hat hlt5 q1 q2 q3 k3 fz cmA fzA kA cm cx
                generalize w5.setCell ⟨ub, xm, none⟩ (.slice (some ⟨gg, 0, none⟩) (m.length + 1) cap) = w6 at *
                go_wp2_with fail
                go_roundw
                case rel => exact ⟨j + 1, _, _, by omega, by go_num, HU2, HN5, HB5⟩
                case measure => simp [intOf]; omega
            · have hjb : r.body.take j = r.body := List.take_of_length_le (by omega)
              have HU2 : Hid (Usr T n (k + 1) [] G) := hide (by have := HUS.out; rw [hjb] at this; exact this.next HRr.out HK1.out)
              clear hjb HUS
              go_wp2_with fail
              go_roundw
              case rel => exact ⟨k + 1, _, _, G, vs, by omega, by go_num, HCN3, HU2, HNC, HBs⟩
              case measure => simp [intOf]; omega
        · have hk2 : (r.kind != 1) = true := by simpa using hk1
          have HCS := hide (HCN.out.skip hr hk1)
          have HUK := hide (HUS.out.skip hr hk1)
          clear hr hmem hbody hA HNC hk1
          go_wp2_with fail
          go_roundw
          case rel => exact ⟨k + 1, ms, op, H, vs, by omega, by go_num, HCS, HUK, HNq, HBq⟩
          case measure => simp [intOf]; omega
      · have HE : Hid (k = R) := hide (by omega)
        have HSz := hide HB.out.size
        go_wp2_with fail
        go_ret
        have hcn := HCN.out
        have hus := HUS.out
        have hnc := HNC.out
        rw [HE.out, ← HR.out] at hcn hus
        rw [← HR.out] at hnc
        exact ⟨kb, mr, fr, oo, ub, ms, op, H, vs, rfl, { hnc with nu := fun i v g hv hg => ⟨(hnc.nu i v g hv hg).1, (hnc.nu i v g hv hg).2.1, Nat.le_trans HSz.out (hnc.nu i v g hv hg).2.2⟩, lo := ⟨Nat.le_trans HSz.out hnc.lo.1, Nat.le_trans HSz.out hnc.lo.2.1, Nat.le_trans HSz.out hnc.lo.2.2.1, Nat.le_trans HSz.out hnc.lo.2.2.2.1, Nat.le_trans HSz.out hnc.lo.2.2.2.2⟩ }, hcn, hus, HB.out.trans (HBr.out.mono HB.out.size)⟩
end Go.Proofs.Ytdholifacnnjcaa

