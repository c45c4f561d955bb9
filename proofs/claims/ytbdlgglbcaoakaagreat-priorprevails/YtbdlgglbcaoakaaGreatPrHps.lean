/- A heap in memory: its methods. -/
import Derived.Test.YtbdlgglbcaoakaaGreatPrGrf
import Derived.Deep.RegionLaw
import Derived.Deep.AppendLies
import Derived.Deep.CutRange
namespace Go.Proofs.YtbdlgglbcaoakaaGreat.Pr
open Go.RowKit

abbrev rdy (hb : Nat) : Value := .iface 102 (ptr hb)
structure Hq (B hb : Nat) (hv : Value) (l : List Int) (w : World) : Prop where
  bx : Fx hb 105 [hv] w
  ro : w.ownsRow B 3 1 hv l.length (ints l)
  lo : B ≤ hb
section
variable {B hb : Nat} {hv : Value} {l : List Int} {w w' : World}
theorem Hq.keep (h : Hq B hb hv l w) (hk : ∀ k, (k = hb ∨ hv.ownBlock = some k) → w'.heap[k]? = w.heap[k]?) : Hq B hb hv l w' :=
  ⟨h.bx.keep (hk hb (.inl rfl)), owns_keep h.ro fun g hg => hk g (.inr hg), h.lo⟩
theorem Hq.drew (h : Hq B hb hv l w) (q : Nat) : Hq B hb hv l (w.drewN q) := h.keep fun _ _ => rfl
end
theorem m_less0 (w : World) (hb : Nat) : (method 326 102 (ptr hb) "Less").run Tryz.prog w = ((loadVar 103 ⟨hb, 0, none⟩) >>= fun v => pure (153, v)).run Tryz.prog w := by kernel_rfl
theorem m_swap0 (w : World) (hb : Nat) : (method 326 102 (ptr hb) "Swap").run Tryz.prog w = ((loadVar 103 ⟨hb, 0, none⟩) >>= fun v => pure (157, v)).run Tryz.prog w := by kernel_rfl
theorem m_len0 (w : World) (hb : Nat) : (method 326 102 (ptr hb) "Len").run Tryz.prog w = ((loadVar 103 ⟨hb, 0, none⟩) >>= fun v => pure (44, v)).run Tryz.prog w := by kernel_rfl
theorem m_push (w : World) (hb : Nat) : (method 326 102 (ptr hb) "Push").run Tryz.prog w = .ok (155, ptr hb) w := by kernel_rfl
theorem m_pop (w : World) (hb : Nat) : (method 326 102 (ptr hb) "Pop").run Tryz.prog w = .ok (154, ptr hb) w := by kernel_rfl
section
variable {w : World} {hb : Nat} {a : Option Addr} {n c : Nat} (h : w.cell? ⟨hb, 0, none⟩ = some (.slice a n c))
include h
theorem m_less : (method 326 102 (ptr hb) "Less").run Tryz.prog w = .ok (153, .slice a n c) w := by rw [m_less0]; simp [go_sem, h]
theorem m_swap : (method 326 102 (ptr hb) "Swap").run Tryz.prog w = .ok (157, .slice a n c) w := by rw [m_swap0]; simp [go_sem, h]
theorem m_len : (method 326 102 (ptr hb) "Len").run Tryz.prog w = .ok (44, .slice a n c) w := by rw [m_len0]; simp [go_sem, h]
end
theorem len_any (a : Option Addr) (n c : Nat) (w : World) : Calls Tryz.prog 44 #[.slice a n c] w fun e w' => e = .returned (.int .i64 n) ∧ w' = w := by
  go_enter Tryz.func44, Tryz.ntmps44
  go_wp2_with fail
  go_ret
  exact ⟨rfl, rfl⟩
set_option maxRecDepth 100000 in
set_option maxHeartbeats 3200000 in
theorem less_any {g n c i j : Nat} {w : World} {x y : Int} (hi : i < n) (hj : j < n) (hx : w.cell? ⟨g, i, none⟩ = some (.int .i64 x)) (hy : w.cell? ⟨g, j, none⟩ = some (.int .i64 y)) :
    Calls Tryz.prog 153 #[.slice (some ⟨g, 0, none⟩) n c, .int .i64 i, .int .i64 j] w fun e w' => e = .returned (.bool (decide (x < y))) ∧ ∃ q, w' = w.drewN q := by
  go_enter Tryz.func153, Tryz.ntmps153
  go_wp2_with fail
  go_quiet (fail)
  go_wp2_with fail
  go_ret
  exact ⟨rfl, _, rfl⟩
theorem cell_two {w : World} {g i j : Nat} {y : Int} (hx : (w.cell? ⟨g, i, none⟩).isSome = true) (hy : w.cell? ⟨g, j, none⟩ = some (.int .i64 y)) : (w.setCell ⟨g, i, none⟩ (.int .i64 y)).cell? ⟨g, j, none⟩ = some (.int .i64 y) := by
  by_cases e : i = j
  · subst e; exact World.cell?_setCell_same' w _ _ hx
  · exact (World.cell?_setCell_other _ _ _ _ (by intro h; cases h; exact e rfl)).trans hy
set_option maxRecDepth 100000 in
set_option maxHeartbeats 3200000 in
theorem swap_any {g n c i j : Nat} {w : World} {x y : Int} (hi : i < n) (hj : j < n) (hx : w.cell? ⟨g, i, none⟩ = some (.int .i64 x)) (hy : w.cell? ⟨g, j, none⟩ = some (.int .i64 y)) (hf : ∀ k, w.frozen? ⟨g, k, none⟩ = false) :
    Calls Tryz.prog 157 #[.slice (some ⟨g, 0, none⟩) n c, .int .i64 i, .int .i64 j] w fun e w' => e = .returned (.tuple #[]) ∧ w' = ((w.setCell ⟨g, i, none⟩ (.int .i64 y)).setCell ⟨g, j, none⟩ (.int .i64 x)).drew := by
  have hy2 := cell_two (by rw [hx]; rfl) hy
  go_enter Tryz.func157, Tryz.ntmps157
  go_wp2_with fail
  go_region
  go_wp2_with fail
  go_end0
  exact ⟨rfl, rfl⟩
section
variable {B hb : Nat} {hv : Value} {l : List Int} {w w' : World}
/-- Two cells of the heap exchanged. -/
theorem Hq.swap {g n c i j : Nat} (h : Hq B hb (.slice (some ⟨g, 0, none⟩) n c) l w) : Hq B hb (.slice (some ⟨g, 0, none⟩) n c) (swp l i j) ((w.setCell ⟨g, i, none⟩ (.int .i64 (l.getD j 0))).setCell ⟨g, j, none⟩ (.int .i64 (l.getD i 0))).drew ∧ Fr (fun k => k = g) w ((w.setCell ⟨g, i, none⟩ (.int .i64 (l.getD j 0))).setCell ⟨g, j, none⟩ (.int .i64 (l.getD i 0))).drew := by
  have hne : (Value.slice (some ⟨g, 0, none⟩) n c).ownBlock ≠ some hb := own_fx h.ro h.bx (by decide)
  have hg : hb ≠ g := fun e => hne (by rw [e]; rfl)
  have hn : l.length = n := by
    rcases h.ro.2 with ⟨e, _⟩ | ⟨_, _, _, e, _⟩
    · cases e
    · simp only [Value.slice.injEq] at e; omega
  refine ⟨⟨?_, ?_, h.lo⟩, ?_⟩
  · exact h.bx.keep ((other_set hg).trans (other_set hg))
  · rw [swp_len]
    unfold swp
    rw [← ints_set, ← ints_set, hn]
    have hr := h.ro
    rw [hn] at hr
    exact owns_keep (owns_set (owns_set hr)) fun _ _ => rfl
  · exact ((Fr.setCell (Z := fun k => k = g) ⟨g, i, none⟩ _ rfl).trans (Fr.setCell ⟨g, j, none⟩ _ rfl)).trans ⟨rfl, rfl, rfl, Nat.le_refl _, fun _ _ _ => rfl⟩
theorem Hq.at (h : Hq B hb hv l w) {i : Nat} (hi : i < l.length) : ∃ g c, hv = .slice (some ⟨g, 0, none⟩) l.length c ∧ (∀ j, j < l.length → w.cell? ⟨g, j, none⟩ = some (.int .i64 (l.getD j 0))) ∧ (∀ k, w.frozen? ⟨g, k, none⟩ = false) := by
  obtain ⟨g, c, e, _, hf, _⟩ := owns_at (owns_down h.ro (Nat.zero_le _)) (ints_at hi)
  refine ⟨g, c, e, fun j hj => ?_, hf⟩
  obtain ⟨g', c', e', hc, _⟩ := owns_at (owns_down h.ro (Nat.zero_le _)) (ints_at hj)
  rw [e] at e'
  cases e'
  exact hc
end
theorem t_int (x : Int) (w : World) : (Instr.typeAssert (.iface 3 (.int .i64 x)) 20 3 false).run Tryz.prog w = .ok (.int .i64 x) w := by kernel_rfl
/-- What a heap's methods leave. -/
def Hf (hb : Nat) (hv hv' : Value) (w w' : World) : Prop := Fr (fun k => k = hb ∨ hv.ownBlock = some k) w w' ∧ (hv'.ownBlock = hv.ownBlock ∨ ∃ g, hv'.ownBlock = some g ∧ w.heap.size ≤ g)
theorem Hf.refl (hb : Nat) (hv : Value) (w : World) : Hf hb hv hv w w := ⟨Fr.refl _ _, .inl rfl⟩
theorem Hf.trans {hb : Nat} {hv hv' hv2 : Value} {w w' w2 : World} (h : Hf hb hv hv' w w') (k : Hf hb hv' hv2 w' w2) : Hf hb hv hv2 w w2 := by
  refine ⟨⟨k.1.os.trans h.1.os, k.1.tape.trans h.1.tape, k.1.output.trans h.1.output, Nat.le_trans h.1.size k.1.size, fun i hi hz => ?_⟩, ?_⟩
  · refine (k.1.block i (Nat.lt_of_lt_of_le hi h.1.size) fun e => ?_).trans (h.1.block i hi hz)
    rcases e with e | e
    · exact hz (.inl e)
    · rcases h.2 with e2 | ⟨g, e2, hg⟩
      · exact hz (.inr (e2 ▸ e))
      · rw [e2] at e; cases e; omega
  · rcases k.2 with e | ⟨g, e, hg⟩
    · rw [e]; exact h.2
    · exact .inr ⟨g, e, Nat.le_trans h.1.size hg⟩
theorem Hq.push {B hb : Nat} {l : List Int} {w w5 : World} {a : Option Addr} {c gg cap : Nat} {x : Int} {ob : Obj} (h : Hq B hb (.slice a l.length c) l w) (hown : w5.ownsRow B 3 1 (.slice (some ⟨gg, 0, none⟩) (l.length + 1) cap) (l.length + 1) (ints l ++ [.int .i64 x])) (hgrow : (w.alloc ob).drew.grownBy w5 (Value.ownBlock (.slice a l.length c))) (hat : Value.ownBlock (.slice a l.length c) = some gg ∨ gg = w.heap.size + 1) :
    Hq B hb (.slice (some ⟨gg, 0, none⟩) (l.length + 1) cap) (l ++ [x]) (w5.setCell ⟨hb, 0, none⟩ (.slice (some ⟨gg, 0, none⟩) (l.length + 1) cap)) ∧ Hf hb (.slice a l.length c) (.slice (some ⟨gg, 0, none⟩) (l.length + 1) cap) w (w5.setCell ⟨hb, 0, none⟩ (.slice (some ⟨gg, 0, none⟩) (l.length + 1) cap)) := by
  have hne : Value.ownBlock (.slice a l.length c) ≠ some hb := own_fx h.ro h.bx (by decide)
  have hbx := h.bx.keep (grown_old2 hgrow h.bx.lt hne)
  refine ⟨⟨hbx.set 0 _, ?_, h.lo⟩, ⟨?_, ?_⟩⟩
  · rw [List.length_append, ints_snoc]
    exact owns_keep hown fun g hg => other_set fun e => own_fx hown hbx (by decide) (e ▸ hg)
  · have h1 : Fr (fun k => k = hb ∨ Value.ownBlock (.slice a l.length c) = some k) w (w.alloc ob).drew := Fr.of_below (below_new w ob).drew
    exact (h1.trans (.of_grown hgrow fun k e => .inr e)).trans (.setCell ⟨hb, 0, none⟩ _ (.inl rfl))
  · rcases hat with e | e
    · exact .inl (by rw [e]; rfl)
    · exact .inr ⟨gg, rfl, by omega⟩
set_option maxRecDepth 100000 in
set_option maxHeartbeats 6400000 in
theorem push_any {B hb : Nat} {hv : Value} {l : List Int} {w : World} {x : Int} (h : Hq B hb hv l w) (hB : B ≤ w.heap.size) (hl : l.length ≤ 1048576) :
    Calls Tryz.prog 155 #[ptr hb, .iface 3 (.int .i64 x)] w fun e w' => e = .returned (.tuple #[]) ∧ ∃ hv', Hq B hb hv' (l ++ [x]) w' ∧ Hf hb hv hv' w w' := by
  obtain ⟨iI, hiI, zI0, zI1, zI2⟩ := info_parts infoI
  obtain ⟨a, c, rfl⟩ := owns_slice h.ro
  have c0 := h.bx.get (i := 0) rfl
  have f0 := h.bx.frz 0
  have hA := below_new w (.cells #[.int .i64 x] 3)
  have hAd := hA.drew
  have HOM := hide (owns_keep h.ro fun g hg => hAd.block g (owns_lt h.ro hg))
  have HSA : Hid ((w.alloc (.cells #[.int .i64 x] 3)).drew.heap.size = w.heap.size + 1) := hide (by show (w.alloc (.cells #[.int .i64 x] 3)).heap.size = _; simp)
  have HNA : Hid (∀ j u, [Value.int .i64 x][j]? = some u → (w.alloc (.cells #[.int .i64 x] 3)).drew.cell? ((⟨w.heap.size, 0, none⟩ : Addr).add j) = some u) := hide (World.news_of_block (cs := [Value.int .i64 x].toArray) (t := 3) (fr := (0, 0)) (heap_alloc_new w (.cells #[.int .i64 x] 3)))
  have HQ := hide h
  have HNE : Hid (Value.ownBlock (.slice a l.length c) ≠ some hb) := hide (own_fx h.ro h.bx (by decide))
  have bA := h.bx.keep (hA.block hb h.bx.lt)
  have cA := bA.get (i := 0) rfl
  have fA := bA.frz 0
  clear h hA hAd bA
  have hta := t_int x
  go_enter Tryz.func155, Tryz.ntmps155
  go_region_law (refine step_append_lies _ (by rfl) _ _ _ (by rfl) B 3 iI _ 1 8 Tryz.underlying103 hiI zI0 zI1 zI2 rfl (by decide) (.slice a l.length c) l.length (ints l) (by rfl) HOM.out ⟨w.heap.size, 0, none⟩ 1 1 [.int .i64 x] (by rfl) rfl HNA.out (by simp [Value.oneCell']) (by decide) (by unfold maxLen; omega) (by omega) (by rw [HSA.out]; omega) (w.heap.size + 1) HSA.out ?_; intro gg cap w5 hown hgrow hat hlt5; have o5 := grown_old2 hgrow HQ.out.bx.lt HNE.out; have f5 := HQ.out.bx.keep o5; have q1 := f5.get (i := 0) rfl; have q2 := f5.frz 0; clear o5 f5)
  all_goals
    have HP := hide (HQ.out.push hown hgrow hat)
    clear hown hgrow hat hlt5 q1 q2 cA fA c0 f0
    go_end0
    exact ⟨rfl, _, HP.out.1, HP.out.2⟩
theorem Hq.pop {B hb : Nat} {hv : Value} {q : List Int} {x : Int} {w : World} (h : Hq B hb hv (q ++ [x]) w) : ∃ g c, hv = .slice (some ⟨g, 0, none⟩) (q.length + 1) c ∧ q.length + 1 ≤ c ∧ w.cell? ⟨hb, 0, none⟩ = some (.slice (some ⟨g, 0, none⟩) (q.length + 1) c) ∧ w.cell? ⟨g, q.length, none⟩ = some (.int .i64 x) ∧ Hq B hb (.slice (some ⟨g, 0, none⟩) q.length c) q (w.setCell ⟨hb, 0, none⟩ (.slice (some ⟨g, 0, none⟩) q.length c)) ∧ Hf hb hv (.slice (some ⟨g, 0, none⟩) q.length c) w (w.setCell ⟨hb, 0, none⟩ (.slice (some ⟨g, 0, none⟩) q.length c)) := by
  have hl : (q ++ [x]).length = q.length + 1 := by simp
  have hr := h.ro
  rw [hl] at hr
  obtain ⟨g, c, e, hc, _, _⟩ := owns_at (owns_down hr (Nat.zero_le _)) (i := q.length) (x := .int .i64 x) (by rw [ints_snoc, ← ints_len (l := q), List.getElem?_append_right (Nat.le_refl _), Nat.sub_self]; rfl)
  subst e
  have hcap : q.length + 1 ≤ c := by
    rcases hr.2 with ⟨e, _⟩ | ⟨_, _, _, e, _, _, h5, _⟩
    · cases e
    · simp only [Value.slice.injEq] at e; omega
  have hne : Value.ownBlock (.slice (some ⟨g, 0, none⟩) (q.length + 1) c) ≠ some hb := own_fx hr h.bx (by decide)
  have hne2 : g ≠ hb := fun e => hne (by rw [e]; rfl)
  refine ⟨g, c, rfl, hcap, h.bx.get rfl, hc, ⟨h.bx.set 0 _, ?_, h.lo⟩, Fr.setCell ⟨hb, 0, none⟩ _ (.inl rfl), .inl rfl⟩
  have := owns_take (m := q.length) hr (by omega) (by simp)
  rw [Nat.mul_one, ints_snoc, ← ints_len (l := q), List.take_left, ints_len] at this
  exact owns_keep this fun k hk => other_set fun e => hne2 (by cases hk; exact e)
set_option maxRecDepth 100000 in
set_option maxHeartbeats 6400000 in
theorem pop_any {B hb : Nat} {hv : Value} {q : List Int} {x : Int} {w : World} (h : Hq B hb hv (q ++ [x]) w) (hl : q.length ≤ 1048576) :
    Calls Tryz.prog 154 #[ptr hb] w fun e w' => e = .returned (.iface 3 (.int .i64 x)) ∧ ∃ hv', Hq B hb hv' q w' ∧ Hf hb hv hv' w w' := by
  obtain ⟨g, c, rfl, hcap, c0, c1, h1, h2⟩ := h.pop
  have f0 := h.bx.frz 0
  have H1 := hide h1
  have H2 := hide h2
  clear h h1 h2
  have hmi : ∀ w : World, (Instr.makeInterface 3 (.int .i64 x)).run Tryz.prog w = .ok (.iface 3 (.int .i64 x)) w := fun w => by kernel_rfl
  go_enter Tryz.func154, Tryz.ntmps154
  go_wp2_with fail
  go_ret
  exact ⟨rfl, _, H1.out, H2.out⟩
end Go.Proofs.YtbdlgglbcaoakaaGreat.Pr
/- A heap in memory: up, down, Push, Pop. -/
namespace Go.Proofs.YtbdlgglbcaoakaaGreat.Pr
open Go.RowKit

set_option maxRecDepth 100000 in
set_option maxHeartbeats 6400000 in
theorem up_any {B hb : Nat} {hv : Value} {l : List Int} {w : World} {j : Nat} (h : Hq B hb hv l w) (hu : UpI l j) (hl : l.length ≤ 1048577) :
    Calls Tryz.prog 89 #[rdy hb, .int .i64 j] w fun e w' => e = .returned (.tuple #[]) ∧ ∃ l', l'.Perm l ∧ Hpl l' l'.length ∧ Hq B hb hv l' w' ∧ Hf hb hv hv w w' := by
  have H0 := hide h
  have HU := hide hu
  have hj0 : j < 1048577 := Nat.lt_of_lt_of_le hu.1 hl
  clear h hu
  go_enter Tryz.func89, Tryz.ntmps89
  go_wp2_with fail
  go_loopw [1] (fun x wr => ∃ (l' : List Int) (j : Nat), j < 1048577 ∧ x = .int .i64 j ∧ Hid (l'.Perm l) ∧ Hid (UpI l' j) ∧ Hid (Hq B hb hv l' wr) ∧ Hid (Hf hb hv hv w wr)) (fun x _ => (intOf x).toNat)
  case atStart => exact ⟨l, j, hj0, rfl, hide (List.Perm.refl _), HU, H0, hide (Hf.refl _ _ _)⟩
  case round =>
    clear H0 HU hj0
    obtain ⟨l', j, hj, rfl, HP, HU, HQ, HF⟩ := hrel
    by_cases hz : j = 0
    · subst hz
      have HD := hide (up_done HU.out (.inl rfl))
      clear HU
      go_wp2_with fail
      go_end0
      exact ⟨rfl, l', HP.out, HD.out, HQ.out, HF.out⟩
    · obtain ⟨p, hp⟩ : ∃ p, (j - 1) / 2 = p := ⟨_, rfl⟩
      have hjl : j < l'.length := HU.out.1
      have hpl : p < l'.length := by omega
      have hpj : p < j := by omega
      have e1 : ((j : Int) - 1) / 2 = (p : Int) := by omega
      have hbb : ((p : Int) == (j : Int)) = false := beq_eq_false_iff_ne.2 (by omega)
      obtain ⟨g, c, hhv, hcell, hfz⟩ := HQ.out.at hjl
      have c0 := HQ.out.bx.get (i := 0) rfl
      rw [hhv] at c0
      have hx := hcell j hjl
      have hy := hcell p hpl
      have hm1 := m_less c0
      have HSW := hide ((hhv ▸ HQ.out : Hq B hb (.slice (some ⟨g, 0, none⟩) l'.length c) l' wr).swap (i := p) (j := j))
      have HUS : Hid (l'.getD j 0 < l'.getD p 0 → UpI (swp l' p j) p) := hide (by rw [← hp]; exact up_step HU.out (by omega))
      have HUD : Hid (¬ l'.getD j 0 < l'.getD p 0 → Hpl l' l'.length) := hide (fun hn => up_done HU.out (.inr (by rw [hp]; omega)))
      have HPS := hide ((swp_perm hpl hjl).trans HP.out)
      obtain ⟨n, hn⟩ : ∃ n, l'.length = n := ⟨_, rfl⟩
      rw [hn] at hjl hpl c0 hm1 HSW hhv
      have HV := hide hhv
      have HN := hide hn
      clear hcell HU hp hn hhv
      generalize l'.getD j 0 = x at *
      generalize l'.getD p 0 = y at *
      have hmS := fun q => m_swap (w := wr.drewN q) c0
      go_upto_region 1 with fail
      rw [e1]
      clear e1
      by_cases hlt : x < y
      · have HU2 := hide (HUS.out hlt)
        clear HUS HUD
        have hdl : decide (x < y) = true := decide_eq_true hlt
        go_upto_region 2 with (go_at_call 153; refine (less_any hjl hpl hx hy).mono ?_; rintro e w1 ⟨rfl, q, hw1⟩; subst w1)
        go_upto_region 3 with (go_at_call 157; refine (swap_any (w := wr.drewN q) hpl hjl hy hx hfz).mono ?_; rintro e w2 ⟨rfl, hw2⟩; have HW2 := hide hw2; clear hw2)
        have HQ2 : Hid (Hq B hb hv (swp l' p j) w2) := hide (by rw [HW2.out, HV.out]; exact HSW.out.1.keep fun _ _ => rfl)
        have HF2 : Hid (Hf hb hv hv w w2) := hide (HF.out.trans ⟨by
          have := HSW.out.2
          rw [HW2.out]
          exact ⟨this.os, this.tape, this.output, this.size, fun k hk hz => this.block k hk fun e => hz (.inr (by rw [HV.out, e]; rfl))⟩, .inl rfl⟩)
        clear HW2 HQ HF HSW hm1 hmS hx hy c0 hfz
        go_wp2_with fail
        go_roundw
        case rel => exact ⟨_, p, by omega, rfl, HPS, HU2, HQ2, HF2⟩
        case measure => simp [intOf]; omega
      · have HD := hide (HUD.out hlt)
        clear HUS HUD
        have hdl : decide (x < y) = false := decide_eq_false hlt
        go_wp2_with (go_at_call 153; refine (less_any hjl hpl hx hy).mono ?_; rintro e w1 ⟨rfl, q, hw1⟩; subst w1)
        go_end0
        exact ⟨rfl, l', HP.out, HD.out, HQ.out.drew q, HF.out.trans ⟨Fr.of_below (below_drewN wr q), .inl rfl⟩⟩
end Go.Proofs.YtbdlgglbcaoakaaGreat.Pr
