/- A walk, deep first, in memory. -/
import Derived.Test.YtbdlgglbcaoakaaGreatPrCln
import Derived.Deep.LoopGhost
namespace Go.Proofs.YtbdlgglbcaoakaaGreat.Pr
open Go.RowKit

/-! How much is to come. -/
def wg (z : Int) : Nat := if z = 0 then 2 else if z = 1 then 1 else 0
def wgt (st : List Int) : Nat := (st.map wg).sum
theorem sum_set {f : Int → Nat} {v : Int} : ∀ {l : List Int} {i : Nat}, i < l.length → ((l.set i v).map f).sum + f (l.getD i 0) = (l.map f).sum + f v
  | [], i, h => by simp at h
  | x :: r, 0, _ => by simp; omega
  | x :: r, i + 1, h => by
    have := sum_set (f := f) (v := v) (l := r) (i := i) (by simpa using h)
    simp only [List.set_cons_succ, List.map_cons, List.sum_cons, List.getD_cons_succ]
    omega
theorem wgt_open {st : List Int} {o : Nat} (ho : o < st.length) (h0 : st.getD o 0 = 0) : wgt (st.set o 1) + 1 = wgt st := by
  have := sum_set (f := wg) (v := 1) ho
  rw [h0] at this
  have h1 : wg 0 = 2 := rfl
  have h2 : wg 1 = 1 := rfl
  unfold wgt
  omega
theorem wgt_shut {st : List Int} {o : Nat} (ho : o < st.length) (h0 : st.getD o 0 = 1) : wgt (st.set o 2) + 1 = wgt st := by
  have := sum_set (f := wg) (v := 2) ho
  rw [h0] at this
  have h1 : wg 2 = 0 := rfl
  have h2 : wg 1 = 1 := rfl
  unfold wgt
  omega
/-- What was come to stays so. -/
def Mn (n : Nat) (s0 : List Int) (first : Nat) (st : List Int) : Prop := ∀ p, p < n → (s0.getD p 0 ≠ 0 ∨ p = first) → st.getD p 0 ≠ 0
theorem Mn.set {n : Nat} {s0 st : List Int} {first o : Nat} {v : Int} (h : Mn n s0 first st) (ho : o < st.length) (hv : v ≠ 0) : Mn n s0 first (st.set o v) := fun p hp hq => by
  rw [set_get ho]
  split
  · exact hv
  · exact h p hp hq
abbrev sl (g n : Nat) : Value := .slice (some ⟨g, 0, none⟩) n n
structure Dq (B W sb tb : Nat) (nv wv : Value) (n : Nat) (way : List Nat) (st tr : List Int) (w : World) : Prop where
  bx : Fx W 99 [nv, sl sb n, sl tb n] w
  fs : Fx sb 100 (ints st) w
  ft : Fx tb 3 (ints tr) w
  ro : w.ownsRow B 3 1 wv way.length (ints (zn way))
  nt : wv.ownBlock ≠ some tb
  lo : B ≤ W ∧ B ≤ sb ∧ B ≤ tb
section
variable {B W sb tb g m c : Nat} {nv wv : Value} {n : Nat} {way : List Nat} {st tr : List Int} {w w' : World}
theorem Dq.keep (h : Dq B W sb tb nv wv n way st tr w) (hk : ∀ k, (k = W ∨ k = sb ∨ k = tb ∨ wv.ownBlock = some k) → w'.heap[k]? = w.heap[k]?) : Dq B W sb tb nv wv n way st tr w' :=
  ⟨h.bx.keep (hk _ (.inl rfl)), h.fs.keep (hk _ (.inr (.inl rfl))), h.ft.keep (hk _ (.inr (.inr (.inl rfl)))), owns_keep h.ro fun g hg => hk g (.inr (.inr (.inr hg))), h.nt, h.lo⟩
theorem Dq.state (h : Dq B W sb tb nv wv n way st tr w) (o : Nat) (v : Int) : Dq B W sb tb nv wv n way (st.set o v) tr (w.setCell ⟨sb, o, none⟩ (.int .i64 v)) := by
  refine ⟨h.bx.keep (other_set (fx_ne h.bx h.fs (by decide))), by rw [← ints_set]; exact h.fs.set o _, h.ft.keep (other_set (fx_ne h.ft h.fs (by decide))), owns_keep h.ro fun g hg => other_set fun e => own_fx h.ro h.fs (by decide) (e ▸ hg), h.nt, h.lo⟩
theorem Dq.tried (h : Dq B W sb tb nv wv n way st tr w) (o : Nat) (v : Int) : Dq B W sb tb nv wv n way st (tr.set o v) (w.setCell ⟨tb, o, none⟩ (.int .i64 v)) := by
  refine ⟨h.bx.keep (other_set (fx_ne h.bx h.ft (by decide))), h.fs.keep (other_set (fx_ne h.fs h.ft (by decide))), by rw [← ints_set]; exact h.ft.set o _, owns_keep h.ro fun g hg => other_set fun e => h.nt (e ▸ hg), h.nt, h.lo⟩
theorem Dq.more (h : Dq B W sb tb nv wv n way st tr w) {k g4 cap4 : Nat} {ob : Obj} (hown : w'.ownsRow B 3 1 (.slice (some ⟨g4, 0, none⟩) (way.length + 1) cap4) (way.length + 1) (ints (zn way) ++ [.int .i64 k]))
    (hg : (wv.ownBlock = some g4 ∧ (w.alloc ob).grownBy w' (some g4)) ∨ (g4 = w.heap.size + 1 ∧ (w.alloc ob).grownBy w' none)) :
    Dq B W sb tb nv (.slice (some ⟨g4, 0, none⟩) (way.length + 1) cap4) n (way ++ [k]) st tr w' ∧ (B ≤ w.heap.size → Below B w w') := by
  have ho : ∀ k, k < w.heap.size → wv.ownBlock ≠ some k → w'.heap[k]? = w.heap[k]? := fun k hk hn => grown_old rfl hg hk hn
  refine ⟨⟨h.bx.keep (ho _ h.bx.lt (own_fx h.ro h.bx (by decide))), h.fs.keep (ho _ h.fs.lt (own_fx h.ro h.fs (by decide))), h.ft.keep (ho _ h.ft.lt h.nt), by rw [List.length_append, zn_snoc, ints_snoc]; exact hown, fun e => ?_, h.lo⟩, fun hB => ?_⟩
  · have e' : g4 = tb := by simpa [Value.ownBlock] using e
    rcases hg with ⟨e2, _⟩ | ⟨e2, _⟩
    · exact h.nt (e' ▸ e2)
    · have := h.ft.lt; omega
  · exact (grown_fr (Z := fun k => B ≤ k) rfl hg fun g e => (h.ro.lt g e).1).below fun k hk => ⟨by omega, by omega⟩
theorem Dq.pop (h : Dq B W sb tb nv (.slice (some ⟨g, 0, none⟩) m c) n way st tr w) (hm : way.length = m) (hp : 0 < m) : Dq B W sb tb nv (.slice (some ⟨g, 0, none⟩) (m - 1) c) n (way.take (way.length - 1)) st tr w := by
  refine ⟨h.bx, h.fs, h.ft, ?_, h.nt, h.lo⟩
  have hr := h.ro
  rw [hm] at hr
  have := owns_take (m := m - 1) hr (by omega) (by simp)
  have e1 : (way.take (way.length - 1)).length = m - 1 := by rw [List.length_take, hm]; omega
  rw [e1]
  have e2 : ints (zn (way.take (way.length - 1))) = (ints (zn way)).take ((m - 1) * 1) := by unfold ints zn; rw [Nat.mul_one, hm, List.map_take, List.map_take]
  rw [e2]
  exact this
theorem Dq.at (h : Dq B W sb tb nv wv n way st tr w) {i k : Nat} (hi : way[i]? = some k) : ∃ g c, wv = .slice (some ⟨g, 0, none⟩) way.length c ∧ way.length ≤ c ∧ w.cell? ⟨g, i, none⟩ = some (.int .i64 k) := by
  obtain ⟨g, c, e, hc, _, _⟩ := owns_at (owns_down h.ro (Nat.zero_le _)) (i := i) (x := .int .i64 k) (by unfold ints zn; rw [List.getElem?_map, List.getElem?_map, hi]; rfl)
  refine ⟨g, c, e, ?_, hc⟩
  rcases h.ro.2 with ⟨e2, _⟩ | ⟨_, _, _, e2, _, _, h5, _⟩
  · rw [e] at e2; cases e2
  · rw [e] at e2; simp only [Value.slice.injEq] at e2; omega
theorem Dq.slice (h : Dq B W sb tb nv wv n way st tr w) : ∃ a c, wv = .slice a way.length c := owns_slice h.ro
end
theorem infoS : (Tryz.prog.info? 100).map (fun i => (i.zero, i.size, i.bytes)) = some (some (.int .i64 0), 1, 8) := by kernel_rfl
end Go.Proofs.YtbdlgglbcaoakaaGreat.Pr
/- circleFrom. -/
namespace Go.Proofs.YtbdlgglbcaoakaaGreat.Pr
open Go.RowKit

set_option maxRecDepth 100000 in
set_option maxHeartbeats 12800000 in
theorem circleFrom_any {B N W sb tb n : Nat} {w0 w : World} {next : List (List Int)} {na : Option Addr} {nc first : Nat} {st tr : List Int} (hL : Lists N w0 next (.slice na n nc)) (hN : N ≤ B) (hB : B ≤ w.heap.size) (hB0 : Below B w0 w) (hd : Dq B W sb tb (.slice na n nc) (.slice none 0 0) n [] st tr w) (hdf : Df next [] st tr) (hnn : next.length = n) (hn : n ≤ 1048576) (ht : total next ≤ 1048576) (hf : first < n) (h0 : st.getD first 0 = 0) :
    Calls Tryz.prog 41 #[ptr W, .int .i64 first] w fun e w' => Below B w w' ∧ ((∃ l v, e = .returned v ∧ IsCyc next l ∧ w'.ownsRow B 3 1 v l.length (ints (zn l))) ∨ (∃ st' tr', e = .returned (.slice none 0 0) ∧ Dq B W sb tb (.slice na n nc) (.slice none 0 0) n [] st' tr' w' ∧ Df next [] st' tr' ∧ Mn n st first st')) := by
  obtain ⟨iI, hiI, zI0, zI1, zI2⟩ := info_parts infoI
  have HL := hide hL
  have HB0 := hide hB0
  have HNN := hide hnn
  have HRL : Hid (∀ (i : Nat) (l : List Int), next[i]? = some l → l.length ≤ 1048576) := hide fun i l hi => Nat.le_trans (row_le hi) ht
  have hsl : first < st.length := by rw [hdf.ls, hnn]; exact hf
  have c1 := hd.bx.get (i := 1) rfl
  have cs := hd.fs.get (ints_at hsl)
  have fs := hd.fs.frz first
  have hA := below_new w (.cells #[.int .i64 first] 3)
  have bxA := hd.bx.keep (hA.block W hd.bx.lt)
  have fsA := hd.fs.keep (hA.block sb hd.fs.lt)
  have c1A := bxA.get (i := 1) rfl
  have csA := fsA.get (ints_at hsl)
  have frA := fsA.frz first
  have HD0 : Hid (Dq B W sb tb (.slice na n nc) (.slice (some ⟨w.heap.size, 0, none⟩) 1 1) n [first] (st.set first 1) tr ((w.alloc (.cells #[.int .i64 first] 3)).setCell ⟨sb, first, none⟩ (.int .i64 1))) := hide (by
    have ft := hd.ft
    refine Dq.state (way := [first]) (o := first) (v := 1) ⟨bxA, fsA, hd.ft.keep (hA.block tb hd.ft.lt), ⟨rfl, .inr ⟨w.heap.size, 1, #[.int .i64 first], rfl, hB, heap_alloc_new w _, Nat.le_refl _, by unfold maxLen; omega, rfl, rfl⟩⟩, fun e => ?_, hd.lo⟩
    have := hd.ft.lt
    simp [Value.ownBlock] at e
    omega)
  have HF0 : Hid (Df next [first] (st.set first 1) tr) := hide (by
    have := hdf.come (o := first) (by rw [hnn]; exact hf) h0 (fun a h => by simp at h) (fun a h => by simp at h) (fun i a h => by simp at h)
    simpa using this)
  have HM0 : Hid (Mn n st first (st.set first 1)) := hide fun p hp hq => by
    rw [set_get hsl]
    split
    · omega
    · rename_i hne; rcases hq with hq | hq
      · exact hq
      · exact absurd hq hne
  have HBB : Hid (Below B w ((w.alloc (.cells #[.int .i64 first] 3)).setCell ⟨sb, first, none⟩ (.int .i64 1))) := hide ((hA.mono hB).setCell (p := ⟨sb, first, none⟩) hd.lo.2.1 _)
  clear hL hB0 hnn hd hdf bxA fsA hA h0 hsl
  go_enter Tryz.func41, Tryz.ntmps41
  go_wp2_with fail
  go_step3
  go_wp2_with fail
  go_step3
  go_wp2_with fail
  clear c1 cs fs c1A csA frA
  generalize (w.alloc (.cells #[.int .i64 first] 3)).setCell ⟨sb, first, none⟩ (.int .i64 1) = w1 at *
  go_loopg [5] (wgt (st.set first 1)) (fun k wv wr => ∃ (way : List Nat) (st' tr' : List Int), (∃ wa wc, wv = .slice wa way.length wc) ∧ Hid (wgt st' ≤ k) ∧ Hid (Dq B W sb tb (.slice na n nc) wv n way st' tr' wr) ∧ Hid (Df next way st' tr') ∧ Hid (Mn n st first st') ∧ Hid (Below B w wr))
  case atStart => exact ⟨[first], _, tr, ⟨_, _, rfl⟩, hide (Nat.le_refl _), HD0, HF0, HM0, HBB⟩
  case round =>
    clear HD0 HF0 HM0 HBB
    obtain ⟨way, st1, tr1, ⟨wa, wc, rfl⟩, HG, HD, HF, HM, HB⟩ := hrel
    have hwn : way.length ≤ n := by have := nodup_le HF.out.nd HF.out.wl; rw [HNN.out] at this; exact this
    by_cases hw : way = []
    · subst hw
      have HD2 : Hid (Dq B W sb tb (.slice na n nc) (.slice none 0 0) n [] st1 tr1 wr) := hide ⟨HD.out.bx, HD.out.fs, HD.out.ft, ⟨rfl, .inl ⟨rfl, rfl⟩⟩, by simp [Value.ownBlock], HD.out.lo⟩
      rw [List.length_nil]
      go_wp2_with fail
      try rw [Exit.noGoto_ret]
      go_ret
      exact ⟨HB.out, .inr ⟨st1, tr1, rfl, HD2.out, HF.out, HM.out⟩⟩
    · obtain ⟨K, hK⟩ : ∃ K, way.length = K + 1 := ⟨way.length - 1, by cases way with | nil => exact absurd rfl hw | cons _ _ => simp⟩
      obtain ⟨p, hp⟩ := get_at (l := way) (i := K) (by omega)
      obtain ⟨g, c, e, hgc, hcp⟩ := HD.out.at hp
      simp only [Value.slice.injEq] at e
      obtain ⟨rfl, -, rfl⟩ := e
      have hpt : way[way.length - 1]? = some p := by rw [hK]; exact hp
      have hpn : p < n := by have := HF.out.wl p (List.mem_of_getElem? hp); rw [HNN.out] at this; exact this
      obtain ⟨r, hr⟩ := get_at (l := next) (i := p) (by rw [HNN.out]; exact hpn)
      have hrD : next.getD p [] = r := by rw [List.getD_eq_getElem?_getD, hr]; rfl
      obtain ⟨g1, o1, a2, c2, rfl, hg1, hc0, hrc, _, hI⟩ := at_L HL.out hr
      have HR := hide hrD
      have HI := hide hI
      have hrl := HRL.out p r hr
      obtain ⟨m, hm⟩ : ∃ m, r.length = m := ⟨_, rfl⟩
      rw [hm] at hc0 hrc HI hrl
      have HMM := hide hm
      have HPT := hide hpt
      have HKK := hide hK
      have HC0 := hide hc0
      rw [hK] at hwn hgc HD ⊢
      have e1 : ((K + 1 : Nat) : Int) - 1 = (K : Int) := by omega
      have e2 : ((K : Int) + 1) - 1 = (K : Int) := by omega
      clear hw hp hr hrD hI hm hpt hK hc0
      go_upto_region 5 with fail
      clear e1 e2 hcp
      go_loopg [5] (m - (tr1.getD p 0).toNat) (fun k x ws => x = .slice (some ⟨g, 0, none⟩) (K + 1) wc ∧ ∃ tr2, Hid (m - (tr2.getD p 0).toNat ≤ k) ∧ Hid (Dq B W sb tb (.slice (some ⟨g1, o1, none⟩) n nc) (.slice (some ⟨g, 0, none⟩) (K + 1) wc) n way st1 tr2 ws) ∧ Hid (Df next way st1 tr2) ∧ Hid (Below B w ws))
      case atStart => exact ⟨rfl, tr1, hide (Nat.le_refl _), HD, HF, HB⟩
      case round =>
        clear HD HF HB
        obtain ⟨rfl, tr2, HG2, HD, HF, HB⟩ := hrel
        have hpl : p < next.length := by rw [HNN.out]; exact hpn
        obtain ⟨ht0, ht1⟩ := HF.out.t0 p hpl
        obtain ⟨t, htt⟩ := Int.eq_ofNat_of_zero_le ht0
        have htm : t ≤ m := by rw [htt, HR.out, HMM.out] at ht1; omega
        have cn := (World.cell?_of_block ((HB0.out.trans HB.out).block g1 (by omega))).trans HC0.out
        have c0 := HD.out.bx.get (i := 0) rfl
        have c1 := HD.out.bx.get (i := 1) rfl
        have c2' := HD.out.bx.get (i := 2) rfl
        have ctr := HD.out.ft.get (ints_at (l := tr2) (i := p) (by rw [HF.out.lt]; exact hpl))
        have ftr := HD.out.ft.frz p
        rw [htt] at ctr
        have HTT := hide htt
        clear ht0 ht1 htt
        by_cases hlt : t < m
        · obtain ⟨z, hz⟩ := get_at (l := r) (i := t) (by rw [HMM.out]; exact hlt)
          obtain ⟨g2, o2, rfl, hg2, hcz0⟩ := at_I HI.out hz
          have hcz : wr.cell? ⟨g2, o2 + t, none⟩ = some (.int .i64 z) := (World.cell?_of_block ((HB0.out.trans HB.out).block g2 (by omega))).trans hcz0
          have HZ := hide hz
          clear hz hcz0
          go_upto_region 5 with fail
          go_quiet (fail)
          have hBr : B ≤ wr.heap.size := Nat.le_trans hB HB.out.size
          replace HB : Hid (Below B w (wr.drewN nq)) := hide (HB.out.trans ((below_drewN wr nq).mono hBr))
          replace HD : Hid (Dq B W sb tb (.slice (some ⟨g1, o1, none⟩) n nc) (.slice (some ⟨g, 0, none⟩) (K + 1) wc) n way st1 tr2 (wr.drewN nq)) := hide (HD.out.keep fun _ _ => rfl)
          replace c0 : (wr.drewN nq).cell? ⟨W, 0, none⟩ = some (.slice (some ⟨g1, o1, none⟩) n nc) := c0
          replace c1 : (wr.drewN nq).cell? ⟨W, 1, none⟩ = some (sl sb n) := c1
          replace c2' : (wr.drewN nq).cell? ⟨W, 2, none⟩ = some (sl tb n) := c2'
          replace ctr : (wr.drewN nq).cell? ⟨tb, p, none⟩ = some (.int .i64 t) := ctr
          replace ftr : (wr.drewN nq).frozen? ⟨tb, p, none⟩ = false := ftr
          replace cn : (wr.drewN nq).cell? ⟨g1, o1 + p, none⟩ = some (.slice (some ⟨g2, o2, none⟩) m c2) := cn
          replace hcz : (wr.drewN nq).cell? ⟨g2, o2 + t, none⟩ = some (.int .i64 z) := hcz
          clear hBr
          generalize wr.drewN nq = wq at *
          go_upto_region 6 with fail
          go_quiet (fail)
          have hBr : B ≤ wq.heap.size := Nat.le_trans hB HB.out.size
          replace HB : Hid (Below B w (wq.drewN nq)) := hide (HB.out.trans ((below_drewN wq nq).mono hBr))
          replace HD : Hid (Dq B W sb tb (.slice (some ⟨g1, o1, none⟩) n nc) (.slice (some ⟨g, 0, none⟩) (K + 1) wc) n way st1 tr2 (wq.drewN nq)) := hide (HD.out.keep fun _ _ => rfl)
          replace c0 : (wq.drewN nq).cell? ⟨W, 0, none⟩ = some (.slice (some ⟨g1, o1, none⟩) n nc) := c0
          replace c1 : (wq.drewN nq).cell? ⟨W, 1, none⟩ = some (sl sb n) := c1
          replace c2' : (wq.drewN nq).cell? ⟨W, 2, none⟩ = some (sl tb n) := c2'
          replace ctr : (wq.drewN nq).cell? ⟨tb, p, none⟩ = some (.int .i64 t) := ctr
          replace ftr : (wq.drewN nq).frozen? ⟨tb, p, none⟩ = false := ftr
          replace cn : (wq.drewN nq).cell? ⟨g1, o1 + p, none⟩ = some (.slice (some ⟨g2, o2, none⟩) m c2) := cn
          replace hcz : (wq.drewN nq).cell? ⟨g2, o2 + t, none⟩ = some (.int .i64 z) := hcz
          clear hBr
          generalize wq.drewN nq = wp at *
          have HDT := hide (HD.out.tried p (t + 1 : Int))
          have HBT := hide (HB.out.setCell (p := ⟨tb, p, none⟩) HD.out.lo.2.2 (.int .i64 (t + 1 : Int)))
          go_upto_region 8 with fail
          clear c0 c1 c2' ctr ftr cn hcz HD HB
          generalize wp.setCell ⟨tb, p, none⟩ (.int .i64 (t + 1 : Int)) = w5 at *
          have hbx := HDT.out.bx
          have c0 := hbx.get (i := 0) rfl
          have c1 := hbx.get (i := 1) rfl
          clear hbx
          have HTS : Hid (tr2.set p (tr2.getD p 0 + 1) = tr2.set p (t + 1 : Int)) := hide (by rw [HTT.out])
          have hzr : (next.getD p [])[t]? = some z := by rw [HR.out]; exact HZ.out
          have HZR := hide hzr
          have HGm : Hid (m - ((tr2.set p (t + 1 : Int)).getD p 0).toNat ≤ m - (t + 1)) := hide (by rw [set_get (by rw [HF.out.lt]; exact hpl), if_pos rfl]; omega)
          have HGl : Hid (m - (t + 1) < gk) := hide (by have := HG2.out; rw [HTT.out] at this; omega)
          clear hzr
          cases hin : inN z n with
          | false =>
            have HF2 := hide (HF.out.tried HPT.out HTT.out HZR.out (.inl (by rw [HNN.out]; exact hin)))
            rw [HTS.out] at HF2
            clear HF
            go_wp2_with (go_at_call 10; refine (within_any _ _ _).mono ?_; rw [hin]; rintro e w6 ⟨rfl, hw6⟩; subst w6)
            go_roundg (m - (t + 1))
            case rel => exact ⟨rfl, _, HGm, HDT, HF2, HBT⟩
            case measure => exact HGl.out
          | true =>
            have hzz := inN_iff.1 hin
            obtain ⟨o, rfl⟩ := Int.eq_ofNat_of_zero_le hzz.1
            have hon : o < n := by omega
            have hol : o < next.length := by rw [HNN.out]; exact hon
            have hsl : o < st1.length := by rw [HF.out.ls]; exact hol
            have cso := HDT.out.fs.get (ints_at hsl)
            have fso := HDT.out.fs.frz o
            have HED : Hid (Ed next p o) := hide ⟨hol, List.mem_of_getElem? HZR.out⟩
            clear hzz
            go_upto_region 9 with (go_at_call 10; refine (within_any _ _ _).mono ?_; rw [hin]; rintro e w6 ⟨rfl, hw6⟩; subst w6)
            rcases HF.out.s3 o hol with hs | hs | hs
            · have HF2 := hide (HF.out.go HPT.out HTT.out HZR.out hol hs)
              rw [HTS.out] at HF2
              have HM2 := hide (HM.out.set (o := o) (v := 1) hsl (by decide))
              have HGo : Hid (wgt (st1.set o 1) + 1 = wgt st1) := hide (wgt_open hsl hs)
              have HD6 := hide (HDT.out.state o 1)
              have HB6 := hide (HBT.out.setCell (p := ⟨sb, o, none⟩) HDT.out.lo.2.1 (.int .i64 1))
              rw [hs] at cso
              clear hs HF HDT HBT
              go_upto_region 14 with fail
              clear c0 c1 cso fso
              generalize w5.setCell ⟨sb, o, none⟩ (.int .i64 1) = w6 at *
              have hA := below_new w6 (.cells #[.int .i64 o] 3)
              have HROW : Hid ((w6.alloc (.cells #[.int .i64 o] 3)).ownsRow B 3 1 (.slice (some ⟨g, 0, none⟩) (K + 1) wc) (K + 1) (ints (zn way))) := hide (by
                have := owns_keep HD6.out.ro fun g hg => hA.block g (owns_lt HD6.out.ro hg)
                rw [HKK.out] at this
                exact this)
              have hs6 : B ≤ w6.heap.size := Nat.le_trans hB HB6.out.size
              clear hA
              go_wp2_with (at_builtin; go_must (refine wpList_append_two _ rfl _ _ 57 rfl B 3 iI _ 1 8 Tryz.underlying57 hiI zI0 zI1 zI2 rfl (by decide) _ _ (ints (zn way)) rfl HROW.out ⟨w6.heap.size, 0, none⟩ 1 [.int .i64 o] rfl rfl (cell_one_new _ _ _) (by intro u hu; simp at hu; subst hu; rfl) (by unfold maxLen; omega) (by omega) (by simp; omega) ?_); intro g4 cap4 w7 hown4 hg4; have HM4 := hide (HD6.out.more (k := o) (g4 := g4) (cap4 := cap4) (w' := w7) (by rw [HKK.out]; exact hown4) (by rcases hg4 with h | ⟨h1, h2⟩; exact .inl h; exact .inr ⟨by simpa using h1, h2⟩)); clear hown4 hg4)
              have HD7 := hide HM4.out.1
              have HB7 := hide (HB6.out.trans (HM4.out.2 hs6))
              rw [HKK.out] at HD7
              go_roundg (wgt (st1.set o 1))
              case rel => exact ⟨way ++ [o], _, _, ⟨_, _, by rw [List.length_append, HKK.out]; rfl⟩, hide (Nat.le_refl _), HD7, HF2, HM2, HB7⟩
              case measure => have := HGo.out; have := HG.out; omega
            · have hmem := (HF.out.op o hol).1 hs
              have hzm : (o : Int) ∈ zn way := by unfold zn; exact List.mem_map.2 ⟨o, hmem, rfl⟩
              have hro := HDT.out.ro
              rw [HKK.out] at hro
              have CI := hide (idx_any (c := wc) (owns_at1 hro) (by rw [zn_len, HKK.out]; omega) hzm)
              rw [zn_len, HKK.out] at CI
              have HF3 : Hid (∀ i, way[i]? = some o → IsCyc next (way.drop i)) := hide fun i hi => HF.out.found HPT.out HED.out hi
              have HCL : Hid (∀ i, i < K + 1 → Calls Tryz.prog 87 #[.slice (some ⟨g, i, none⟩) (K + 1 - i) (wc - i)] w5 fun e w' => ∃ v, e = .returned v ∧ w'.ownsRow w5.heap.size 3 1 v (way.drop i).length (ints (zn (way.drop i))) ∧ Below w5.heap.size w5 w') := hide fun i hi => by
                have hln : (zn (way.drop i)).length = K + 1 - i := by rw [zn_len, List.length_drop, HKK.out]
                have := clone_any (w := w5) (g := g) (o := i) (c := wc - i) (l := zn (way.drop i)) (fun j u hu => by
                  have h1 : (ints (zn way))[i + j]? = some u := by
                    rw [← hu]
                    unfold ints zn
                    rw [List.map_drop, List.map_drop, List.getElem?_drop]
                  obtain ⟨g', c', e, hc, _⟩ := owns_at (owns_down hro (Nat.zero_le _)) h1
                  cases e
                  exact hc) (by rw [hln]; omega)
                rw [hln] at this
                have e2 : (way.drop i).length = K + 1 - i := by rw [List.length_drop, HKK.out]
                rw [e2]
                exact this
              rw [hs] at cso
              have hs5 : B ≤ w5.heap.size := Nat.le_trans hB HBT.out.size
              clear hs hmem hzm hro HF
              go_upto_region 11 with fail
              go_wp2_with (first | (go_at_call 88; refine CI.out.mono ?_; rintro e w6 ⟨i, rfl, hi, hw6⟩; subst w6; have hik : way[i]? = some o := (by unfold zn at hi; rw [List.getElem?_map] at hi; obtain ⟨x, hx, e⟩ := Option.map_eq_some_iff.1 hi; rw [hx]; congr 1; omega); have hil : i < K + 1 := (by have := (List.getElem?_eq_some_iff.1 hik).1; rw [HKK.out] at this; exact this); have HIK := hide hik; clear hi hik) | (go_at_call 87; refine (HCL.out i hil).mono ?_; rintro e w7 ⟨v7, rfl, hv7, hb7⟩; have HV7 := hide hv7; have HB7 := hide hb7; clear hv7 hb7))
              try rw [Exit.noGoto_ret]
              go_ret
              exact ⟨HBT.out.trans (HB7.out.mono hs5), .inl ⟨way.drop i, _, rfl, HF3.out i HIK.out, owns_down HV7.out hs5⟩⟩
            · have HF2 := hide (HF.out.tried HPT.out HTT.out HZR.out (.inr ⟨o, rfl, hs⟩))
              rw [HTS.out] at HF2
              rw [hs] at cso
              clear hs HF
              go_wp2_with fail
              go_roundg (m - (t + 1))
              case rel => exact ⟨rfl, _, HGm, HDT, HF2, HBT⟩
              case measure => exact HGl.out
        · have htm2 : t = m := by omega
          subst htm2
          have hsl : p < st1.length := by rw [HF.out.ls]; exact hpl
          have HF2 := hide (HF.out.shut HPT.out (by rw [HTT.out, HR.out, HMM.out]; omega))
          have HM2 := hide (HM.out.set (o := p) (v := 2) hsl (by decide))
          have hop := (HF.out.op p hpl).2 (List.mem_of_getElem? HPT.out)
          have HGo : Hid (wgt (st1.set p 2) + 1 = wgt st1) := hide (wgt_shut hsl hop)
          clear hop HF
          go_upto_region 5 with fail
          go_quiet (fail)
          clear c2' ctr ftr cn
          have hBr : B ≤ wr.heap.size := Nat.le_trans hB HB.out.size
          replace HB : Hid (Below B w (wr.drewN nq)) := hide (HB.out.trans ((below_drewN wr nq).mono hBr))
          replace HD : Hid (Dq B W sb tb (.slice (some ⟨g1, o1, none⟩) n nc) (.slice (some ⟨g, 0, none⟩) (K + 1) wc) n way st1 tr2 (wr.drewN nq)) := hide (HD.out.keep fun _ _ => rfl)
          replace c0 : (wr.drewN nq).cell? ⟨W, 0, none⟩ = some (.slice (some ⟨g1, o1, none⟩) n nc) := c0
          replace c1 : (wr.drewN nq).cell? ⟨W, 1, none⟩ = some (sl sb n) := c1
          clear hBr
          generalize wr.drewN nq = wq at *
          have cso := HD.out.fs.get (ints_at hsl)
          have fso := HD.out.fs.frz p
          have HD2 := hide ((HD.out.state p 2).pop HKK.out (by omega))
          have HB2 := hide (HB.out.setCell (p := ⟨sb, p, none⟩) HD.out.lo.2.1 (.int .i64 2))
          rw [show K + 1 - 1 = K by omega] at HD2
          have e1 : ((K + 1 : Nat) : Int) - 1 = (K : Int) := by omega
          have e2 : ((K : Int) + 1) - 1 = (K : Int) := by omega
          clear HD HB
          go_upto_region 16 with fail
          clear c0 c1 cso fso
          generalize wq.setCell ⟨sb, p, none⟩ (.int .i64 2) = w6 at *
          go_wp2_with fail
          go_roundg (wgt (st1.set p 2))
          case rel => exact ⟨way.take (way.length - 1), _, _, ⟨_, _, by rw [List.length_take, HKK.out, show min (K + 1 - 1) (K + 1) = K by omega]⟩, hide (Nat.le_refl _), HD2, HF2, HM2, HB2⟩
          case measure => have := HGo.out; have := HG.out; omega
end Go.Proofs.YtbdlgglbcaoakaaGreat.Pr
