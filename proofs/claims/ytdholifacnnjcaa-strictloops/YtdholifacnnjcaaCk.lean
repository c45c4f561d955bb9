/- The worklist, what is said and the counters in memory. (tools/gen14/ck.py wrote this.) -/
import Derived.Test.YtdholifacnnjcaaQu
namespace Go.Proofs.Ytdholifacnnjcaa
open Go.RowKit

/-- Where they lie. -/
structure Adr where
  (cb cr qb sb sr rr pb kb mr fr oo ub : Nat)
/-- K: the blocks that stay. -/
structure Ck (K : Nat → Prop) (a : Adr) (n R : Nat) (s : Cs) (H : List (List Int)) (vs : List Value) (qv : Value) (w : World) : Prop where
  cbx : Fx a.cb 31 [.slice (some ⟨a.cr, 0, none⟩) n n] w
  crw : Fx a.cr 4 (bools s.cm) w
  qbx : Fx a.qb 26 [qv] w
  sbx : Fx a.sb 48 [.slice (some ⟨a.sr, 0, none⟩) n n, .slice (some ⟨a.rr, 0, none⟩) n n] w
  srw : Fx a.sr 44 (ints s.sg) w
  rrw : Fx a.rr 3 (ints s.rd) w
  pbx : Fx a.pb 54 [.func (.func 41) #[] #[ptr a.cb, ptr a.qb]] w
  kbx : Fx a.kb 64 [.slice (some ⟨a.mr, 0, none⟩) R R, .slice (some ⟨a.fr, 0, none⟩) R R, .slice (some ⟨a.oo, 0, none⟩) n n, .slice (some ⟨a.ub, 0, none⟩) n n] w
  mrw : Fx a.mr 3 (ints s.ms) w
  frw : Fx a.fr 4 (bools s.rf) w
  orw : Fx a.oo 3 (ints s.op) w
  us : Hv a.ub n H vs w
  qrw : Qr 0 w qv s.qu
  n1 : a.cr ≠ a.fr
  n2 : a.rr ≠ a.mr
  n3 : a.rr ≠ a.oo
  n4 : a.mr ≠ a.oo
  n5 : a.qb ≠ a.ub
  nq : qv.ownBlock ≠ some a.rr ∧ qv.ownBlock ≠ some a.mr ∧ qv.ownBlock ≠ some a.oo
  nu : ∀ (i : Nat) v g, vs[i]? = some v → v.ownBlock = some g → g ≠ a.rr ∧ g ≠ a.mr ∧ g ≠ a.oo ∧ qv.ownBlock ≠ some g
  kp : ∀ k, K k → k < w.heap.size ∧ k ≠ a.cr ∧ k ≠ a.qb ∧ k ≠ a.sr ∧ k ≠ a.rr ∧ k ≠ a.mr ∧ k ≠ a.fr ∧ k ≠ a.oo ∧ qv.ownBlock ≠ some k
theorem Hv.rep {hb n : Nat} {H : List (List Int)} {vs : List Value} {w w' : World} (h : Hv hb n H vs w) (h1 : w'.heap[hb]? = w.heap[hb]?) (h2 : ∀ (i : Nat) v g, vs[i]? = some v → v.ownBlock = some g → w'.heap[g]? = w.heap[g]?) : Hv hb n H vs w' :=
  ⟨h.ln, h.vl, h.fx.keep h1, fun i l v e1 e2 => owns_keep (h.own i l v e1 e2) fun g hg => h2 i v g e2 hg, h.apart⟩
theorem Hv.own_at {hb n : Nat} {H : List (List Int)} {vs : List Value} {w : World} (h : Hv hb n H vs w) {i : Nat} {v : Value} (hv : vs[i]? = some v) : ∃ l, w.ownsRow (hb + 1) 3 1 v l (ints (H.getD i [])) := by
  have hi : i < H.length := by rw [h.ln, ← h.vl]; exact (List.getElem?_eq_some_iff.1 hv).1
  have := h.own i _ v (List.getElem?_eq_getElem hi) hv
  refine ⟨H[i].length, ?_⟩
  rw [List.getD_eq_getElem?_getD, List.getElem?_eq_getElem hi]
  exact this
section
variable {K : Nat → Prop} {a : Adr} {n R : Nat} {s : Cs} {H : List (List Int)} {vs : List Value} {qv : Value} {w w' : World}
theorem Ck.less (h : Ck K a n R s H vs qv w) {K' : Nat → Prop} (hk : ∀ k, K' k → K k) : Ck K' a n R s H vs qv w := { h with kp := fun k e => h.kp k (hk k e) }
/-- What is there stays, where nothing of it is touched. -/
theorem Ck.go (h : Ck K a n R s H vs qv w) (hb : Below w.heap.size w w') : Ck K a n R s H vs qv w' :=
  ⟨h.cbx.keep (hb.block _ h.cbx.lt), h.crw.keep (hb.block _ h.crw.lt), h.qbx.keep (hb.block _ h.qbx.lt), h.sbx.keep (hb.block _ h.sbx.lt), h.srw.keep (hb.block _ h.srw.lt), h.rrw.keep (hb.block _ h.rrw.lt), h.pbx.keep (hb.block _ h.pbx.lt), h.kbx.keep (hb.block _ h.kbx.lt), h.mrw.keep (hb.block _ h.mrw.lt), h.frw.keep (hb.block _ h.frw.lt), h.orw.keep (hb.block _ h.orw.lt), h.us.go hb, h.qrw.keep fun g hg => hb.block g (h.qrw.lt hg).2, h.n1, h.n2, h.n3, h.n4, h.n5, h.nq, h.nu, fun k hk => ⟨Nat.lt_of_lt_of_le (h.kp k hk).1 hb.size, (h.kp k hk).2⟩⟩
/-- A new block may stay, too. -/
theorem Ck.more (h : Ck K a n R s H vs qv w) (ob : Obj) : Ck (fun k => K k ∨ k = w.heap.size) a n R s H vs qv (w.alloc ob) := by
  have hc := h.go (below_new w ob)
  refine { hc with kp := fun k hk => ?_ }
  rcases hk with hk | rfl
  · exact hc.kp k hk
  · refine ⟨by simp, fun e => by have := h.crw.lt; omega, fun e => by have := h.qbx.lt; omega, fun e => by have := h.srw.lt; omega, fun e => by have := h.rrw.lt; omega, fun e => by have := h.mrw.lt; omega, fun e => by have := h.frw.lt; omega, fun e => by have := h.orw.lt; omega, fun e => ?_⟩
    have := (h.qrw.lt e).2
    omega
/-- All that is no cells may stay. -/
theorem Ck.others (h : Ck K a n R s H vs qv w) : Ck (fun k => K k ∨ ∃ o : Obj, w.heap[k]? = some o ∧ ∀ cs t fr, o ≠ .cells cs t fr) a n R s H vs qv w := by
  refine { h with kp := fun k hk => ?_ }
  rcases hk with hk | ⟨o, ho, hn⟩
  · exact h.kp k hk
  · refine ⟨loc_lt ho, fun e => by have h2 := h.crw; unfold Fx at h2; rw [← e, ho] at h2; cases h2; exact hn _ _ _ rfl, fun e => by have h2 := h.qbx; unfold Fx at h2; rw [← e, ho] at h2; cases h2; exact hn _ _ _ rfl, fun e => by have h2 := h.srw; unfold Fx at h2; rw [← e, ho] at h2; cases h2; exact hn _ _ _ rfl, fun e => by have h2 := h.rrw; unfold Fx at h2; rw [← e, ho] at h2; cases h2; exact hn _ _ _ rfl, fun e => by have h2 := h.mrw; unfold Fx at h2; rw [← e, ho] at h2; cases h2; exact hn _ _ _ rfl, fun e => by have h2 := h.frw; unfold Fx at h2; rw [← e, ho] at h2; cases h2; exact hn _ _ _ rfl, fun e => by have h2 := h.orw; unfold Fx at h2; rw [← e, ho] at h2; cases h2; exact hn _ _ _ rfl, fun e => ?_⟩
    rcases h.qrw with ⟨e2, _⟩ | ⟨g, off, cap, cur, e2, _, h2, _⟩
    · rw [e2] at e; cases e
    · rw [e2] at e; cases e; rw [ho] at h2; cases h2; exact hn _ _ _ rfl
theorem Ck.mark (h : Ck K a n R s H vs qv w) (i : Nat) : Ck K a n R { s with cm := s.cm.set i true } H vs qv (w.setCell ⟨a.cr, i, none⟩ (.bool true)) ∧ Fr (fun k => ¬ K k) w (w.setCell ⟨a.cr, i, none⟩ (.bool true)) :=
  ⟨⟨h.cbx.keep (other_set (fx_ne h.cbx h.crw (by decide))), (by rw [← bools_set]; exact h.crw.set i _), h.qbx.keep (other_set (fx_ne h.qbx h.crw (by decide))), h.sbx.keep (other_set (fx_ne h.sbx h.crw (by decide))), h.srw.keep (other_set (fx_ne h.srw h.crw (by decide))), h.rrw.keep (other_set (fx_ne h.rrw h.crw (by decide))), h.pbx.keep (other_set (fx_ne h.pbx h.crw (by decide))), h.kbx.keep (other_set (fx_ne h.kbx h.crw (by decide))), h.mrw.keep (other_set (fx_ne h.mrw h.crw (by decide))), h.frw.keep (other_set (Ne.symm h.n1)), h.orw.keep (other_set (fx_ne h.orw h.crw (by decide))), h.us.rep (other_set (fx_ne h.us.fx h.crw (by decide))) (fun i v g hv hg => other_set fun e => by obtain ⟨_, ho⟩ := h.us.own_at hv; exact own_fx ho h.crw (by decide) (e ▸ hg)), h.qrw.keep fun g hg => other_set fun e => h.qrw.ne h.crw (by decide) (e ▸ hg), h.n1, h.n2, h.n3, h.n4, h.n5, h.nq, h.nu, fun k hk => ⟨by simpa using (h.kp k hk).1, (h.kp k hk).2⟩⟩, Fr.setCell _ _ fun hk => (h.kp _ hk).2.1 rfl⟩
theorem Ck.sign (h : Ck K a n R s H vs qv w) (i : Nat) (v : Int) : Ck K a n R { s with sg := s.sg.set i v } H vs qv (w.setCell ⟨a.sr, i, none⟩ (.int .i64 v)) ∧ Fr (fun k => ¬ K k) w (w.setCell ⟨a.sr, i, none⟩ (.int .i64 v)) :=
  ⟨⟨h.cbx.keep (other_set (fx_ne h.cbx h.srw (by decide))), h.crw.keep (other_set (fx_ne h.crw h.srw (by decide))), h.qbx.keep (other_set (fx_ne h.qbx h.srw (by decide))), h.sbx.keep (other_set (fx_ne h.sbx h.srw (by decide))), (by rw [← ints_set]; exact h.srw.set i _), h.rrw.keep (other_set (fx_ne h.rrw h.srw (by decide))), h.pbx.keep (other_set (fx_ne h.pbx h.srw (by decide))), h.kbx.keep (other_set (fx_ne h.kbx h.srw (by decide))), h.mrw.keep (other_set (fx_ne h.mrw h.srw (by decide))), h.frw.keep (other_set (fx_ne h.frw h.srw (by decide))), h.orw.keep (other_set (fx_ne h.orw h.srw (by decide))), h.us.rep (other_set (fx_ne h.us.fx h.srw (by decide))) (fun i v g hv hg => other_set fun e => by obtain ⟨_, ho⟩ := h.us.own_at hv; exact own_fx ho h.srw (by decide) (e ▸ hg)), h.qrw.keep fun g hg => other_set fun e => h.qrw.ne h.srw (by decide) (e ▸ hg), h.n1, h.n2, h.n3, h.n4, h.n5, h.nq, h.nu, fun k hk => ⟨by simpa using (h.kp k hk).1, (h.kp k hk).2⟩⟩, Fr.setCell _ _ fun hk => (h.kp _ hk).2.2.2.1 rfl⟩
theorem Ck.rnd (h : Ck K a n R s H vs qv w) (i : Nat) (v : Int) : Ck K a n R { s with rd := s.rd.set i v } H vs qv (w.setCell ⟨a.rr, i, none⟩ (.int .i64 v)) ∧ Fr (fun k => ¬ K k) w (w.setCell ⟨a.rr, i, none⟩ (.int .i64 v)) :=
  ⟨⟨h.cbx.keep (other_set (fx_ne h.cbx h.rrw (by decide))), h.crw.keep (other_set (fx_ne h.crw h.rrw (by decide))), h.qbx.keep (other_set (fx_ne h.qbx h.rrw (by decide))), h.sbx.keep (other_set (fx_ne h.sbx h.rrw (by decide))), h.srw.keep (other_set (fx_ne h.srw h.rrw (by decide))), (by rw [← ints_set]; exact h.rrw.set i _), h.pbx.keep (other_set (fx_ne h.pbx h.rrw (by decide))), h.kbx.keep (other_set (fx_ne h.kbx h.rrw (by decide))), h.mrw.keep (other_set (Ne.symm h.n2)), h.frw.keep (other_set (fx_ne h.frw h.rrw (by decide))), h.orw.keep (other_set (Ne.symm h.n3)), h.us.rep (other_set (fx_ne h.us.fx h.rrw (by decide))) (fun i v g hv hg => other_set (h.nu i v g hv hg).1), h.qrw.keep fun g hg => other_set fun e => h.nq.1 (e ▸ hg), h.n1, h.n2, h.n3, h.n4, h.n5, h.nq, h.nu, fun k hk => ⟨by simpa using (h.kp k hk).1, (h.kp k hk).2⟩⟩, Fr.setCell _ _ fun hk => (h.kp _ hk).2.2.2.2.1 rfl⟩
theorem Ck.miss (h : Ck K a n R s H vs qv w) (i : Nat) (v : Int) : Ck K a n R { s with ms := s.ms.set i v } H vs qv (w.setCell ⟨a.mr, i, none⟩ (.int .i64 v)) ∧ Fr (fun k => ¬ K k) w (w.setCell ⟨a.mr, i, none⟩ (.int .i64 v)) :=
  ⟨⟨h.cbx.keep (other_set (fx_ne h.cbx h.mrw (by decide))), h.crw.keep (other_set (fx_ne h.crw h.mrw (by decide))), h.qbx.keep (other_set (fx_ne h.qbx h.mrw (by decide))), h.sbx.keep (other_set (fx_ne h.sbx h.mrw (by decide))), h.srw.keep (other_set (fx_ne h.srw h.mrw (by decide))), h.rrw.keep (other_set h.n2), h.pbx.keep (other_set (fx_ne h.pbx h.mrw (by decide))), h.kbx.keep (other_set (fx_ne h.kbx h.mrw (by decide))), (by rw [← ints_set]; exact h.mrw.set i _), h.frw.keep (other_set (fx_ne h.frw h.mrw (by decide))), h.orw.keep (other_set (Ne.symm h.n4)), h.us.rep (other_set (fx_ne h.us.fx h.mrw (by decide))) (fun i v g hv hg => other_set (h.nu i v g hv hg).2.1), h.qrw.keep fun g hg => other_set fun e => h.nq.2.1 (e ▸ hg), h.n1, h.n2, h.n3, h.n4, h.n5, h.nq, h.nu, fun k hk => ⟨by simpa using (h.kp k hk).1, (h.kp k hk).2⟩⟩, Fr.setCell _ _ fun hk => (h.kp _ hk).2.2.2.2.2.1 rfl⟩
theorem Ck.refu (h : Ck K a n R s H vs qv w) (i : Nat) : Ck K a n R { s with rf := s.rf.set i true } H vs qv (w.setCell ⟨a.fr, i, none⟩ (.bool true)) ∧ Fr (fun k => ¬ K k) w (w.setCell ⟨a.fr, i, none⟩ (.bool true)) :=
  ⟨⟨h.cbx.keep (other_set (fx_ne h.cbx h.frw (by decide))), h.crw.keep (other_set h.n1), h.qbx.keep (other_set (fx_ne h.qbx h.frw (by decide))), h.sbx.keep (other_set (fx_ne h.sbx h.frw (by decide))), h.srw.keep (other_set (fx_ne h.srw h.frw (by decide))), h.rrw.keep (other_set (fx_ne h.rrw h.frw (by decide))), h.pbx.keep (other_set (fx_ne h.pbx h.frw (by decide))), h.kbx.keep (other_set (fx_ne h.kbx h.frw (by decide))), h.mrw.keep (other_set (fx_ne h.mrw h.frw (by decide))), (by rw [← bools_set]; exact h.frw.set i _), h.orw.keep (other_set (fx_ne h.orw h.frw (by decide))), h.us.rep (other_set (fx_ne h.us.fx h.frw (by decide))) (fun i v g hv hg => other_set fun e => by obtain ⟨_, ho⟩ := h.us.own_at hv; exact own_fx ho h.frw (by decide) (e ▸ hg)), h.qrw.keep fun g hg => other_set fun e => h.qrw.ne h.frw (by decide) (e ▸ hg), h.n1, h.n2, h.n3, h.n4, h.n5, h.nq, h.nu, fun k hk => ⟨by simpa using (h.kp k hk).1, (h.kp k hk).2⟩⟩, Fr.setCell _ _ fun hk => (h.kp _ hk).2.2.2.2.2.2.1 rfl⟩
theorem Ck.opn (h : Ck K a n R s H vs qv w) (i : Nat) (v : Int) : Ck K a n R { s with op := s.op.set i v } H vs qv (w.setCell ⟨a.oo, i, none⟩ (.int .i64 v)) ∧ Fr (fun k => ¬ K k) w (w.setCell ⟨a.oo, i, none⟩ (.int .i64 v)) :=
  ⟨⟨h.cbx.keep (other_set (fx_ne h.cbx h.orw (by decide))), h.crw.keep (other_set (fx_ne h.crw h.orw (by decide))), h.qbx.keep (other_set (fx_ne h.qbx h.orw (by decide))), h.sbx.keep (other_set (fx_ne h.sbx h.orw (by decide))), h.srw.keep (other_set (fx_ne h.srw h.orw (by decide))), h.rrw.keep (other_set h.n3), h.pbx.keep (other_set (fx_ne h.pbx h.orw (by decide))), h.kbx.keep (other_set (fx_ne h.kbx h.orw (by decide))), h.mrw.keep (other_set h.n4), h.frw.keep (other_set (fx_ne h.frw h.orw (by decide))), (by rw [← ints_set]; exact h.orw.set i _), h.us.rep (other_set (fx_ne h.us.fx h.orw (by decide))) (fun i v g hv hg => other_set (h.nu i v g hv hg).2.2.1), h.qrw.keep fun g hg => other_set fun e => h.nq.2.2 (e ▸ hg), h.n1, h.n2, h.n3, h.n4, h.n5, h.nq, h.nu, fun k hk => ⟨by simpa using (h.kp k hk).1, (h.kp k hk).2⟩⟩, Fr.setCell _ _ fun hk => (h.kp _ hk).2.2.2.2.2.2.2.1 rfl⟩
theorem Ck.pop (h : Ck K a n R s H vs qv w) {x : Int} {q : List Int} (hq : s.qu = x :: q) {g off c : Nat} (he : qv = .slice (some ⟨g, off, none⟩) (q.length + 1) c) : Ck K a n R { s with qu := q } H vs (.slice (some ⟨g, off + 1, none⟩) q.length (c - 1)) (w.setCell ⟨a.qb, 0, none⟩ (.slice (some ⟨g, off + 1, none⟩) q.length (c - 1))) ∧ Fr (fun k => ¬ K k) w (w.setCell ⟨a.qb, 0, none⟩ (.slice (some ⟨g, off + 1, none⟩) q.length (c - 1))) := by
  have hr := h.qrw
  rw [hq, he] at hr
  have ht := hr.tail
  subst he
  refine ⟨⟨h.cbx.keep (other_set (fx_ne h.cbx h.qbx (by decide))), h.crw.keep (other_set (fx_ne h.crw h.qbx (by decide))), h.qbx.set 0 _, h.sbx.keep (other_set (fx_ne h.sbx h.qbx (by decide))), h.srw.keep (other_set (fx_ne h.srw h.qbx (by decide))), h.rrw.keep (other_set (fx_ne h.rrw h.qbx (by decide))), h.pbx.keep (other_set (fx_ne h.pbx h.qbx (by decide))), h.kbx.keep (other_set (fx_ne h.kbx h.qbx (by decide))), h.mrw.keep (other_set (fx_ne h.mrw h.qbx (by decide))), h.frw.keep (other_set (fx_ne h.frw h.qbx (by decide))), h.orw.keep (other_set (fx_ne h.orw h.qbx (by decide))), h.us.rep (other_set (Ne.symm h.n5)) (fun i v g hv hg => other_set fun e => by obtain ⟨_, ho⟩ := h.us.own_at hv; exact own_fx ho h.qbx (by decide) (e ▸ hg)), ht.keep fun g hg => other_set fun e => h.qrw.ne h.qbx (by decide) (e ▸ hg), h.n1, h.n2, h.n3, h.n4, h.n5, h.nq, h.nu, fun k hk => ⟨by simpa using (h.kp k hk).1, (h.kp k hk).2⟩⟩, Fr.setCell _ _ fun hk => (h.kp _ hk).2.2.1 rfl⟩
theorem Ck.grow (h : Ck K a n R s H vs qv w) {x : Int} {g off c : Nat} (hq : Qr 0 w' (.slice (some ⟨g, off, none⟩) (s.qu.length + 1) c) (s.qu ++ [x])) (hg : qv.ownBlock = some g ∨ w.heap.size ≤ g) {ob : Obj} (hgr : (w.alloc ob).grownBy w' qv.ownBlock) :
    w'.cell? ⟨a.qb, 0, none⟩ = some qv ∧ w'.frozen? ⟨a.qb, 0, none⟩ = false ∧ Ck K a n R { s with qu := s.qu ++ [x] } H vs (.slice (some ⟨g, off, none⟩) (s.qu.length + 1) c) (w'.setCell ⟨a.qb, 0, none⟩ (.slice (some ⟨g, off, none⟩) (s.qu.length + 1) c)) ∧ Fr (fun k => ¬ K k) w (w'.setCell ⟨a.qb, 0, none⟩ (.slice (some ⟨g, off, none⟩) (s.qu.length + 1) c)) := by
  have hsz : (w.alloc ob).heap.size = w.heap.size + 1 := by simp
  have hold : ∀ k, k < w.heap.size → qv.ownBlock ≠ some k → w'.heap[k]? = w.heap[k]? := fun k hk hn => (hgr.block k (by omega) fun e => hn e.symm).trans ((below_new w ob).block k hk)
  have hgne : ∀ k, k < w.heap.size → qv.ownBlock ≠ some k → g ≠ k := by
    intro k hk hn e
    subst e
    rcases hg with hg | hg
    · exact hn hg
    · omega
  have k_cbx := h.cbx.keep (hold _ h.cbx.lt (h.qrw.ne h.cbx (by decide)))
  have k_crw := h.crw.keep (hold _ h.crw.lt (h.qrw.ne h.crw (by decide)))
  have k_qbx := h.qbx.keep (hold _ h.qbx.lt (h.qrw.ne h.qbx (by decide)))
  have k_sbx := h.sbx.keep (hold _ h.sbx.lt (h.qrw.ne h.sbx (by decide)))
  have k_srw := h.srw.keep (hold _ h.srw.lt (h.qrw.ne h.srw (by decide)))
  have k_rrw := h.rrw.keep (hold _ h.rrw.lt h.nq.1)
  have k_pbx := h.pbx.keep (hold _ h.pbx.lt (h.qrw.ne h.pbx (by decide)))
  have k_kbx := h.kbx.keep (hold _ h.kbx.lt (h.qrw.ne h.kbx (by decide)))
  have k_mrw := h.mrw.keep (hold _ h.mrw.lt h.nq.2.1)
  have k_frw := h.frw.keep (hold _ h.frw.lt (h.qrw.ne h.frw (by decide)))
  have k_orw := h.orw.keep (hold _ h.orw.lt h.nq.2.2)
  have k_us : Hv a.ub n H vs w' := h.us.rep (hold _ h.us.fx.lt (h.qrw.ne h.us.fx (by decide))) fun i v g hv hg => by
    obtain ⟨_, ho⟩ := h.us.own_at hv
    exact hold g (owns_lt ho hg) (h.nu i v g hv hg).2.2.2
  have hnew : ∀ k, k < w.heap.size → qv.ownBlock ≠ some k → Value.ownBlock (.slice (some ⟨g, off, none⟩) (s.qu.length + 1) c) ≠ some k := fun k hk hn e => hgne k hk hn (by cases e; rfl)
  have hf1 : Fr (fun k => ¬ K k) w w' := ⟨hgr.os, hgr.tape, hgr.output, by have := hgr.size; omega, fun k hk hz => hold k hk (h.kp k (Classical.not_not.1 hz)).2.2.2.2.2.2.2.2⟩
  refine ⟨k_qbx.get rfl, k_qbx.frz 0, ⟨k_cbx.keep (other_set (fx_ne k_cbx k_qbx (by decide))), k_crw.keep (other_set (fx_ne k_crw k_qbx (by decide))), k_qbx.set 0 _, k_sbx.keep (other_set (fx_ne k_sbx k_qbx (by decide))), k_srw.keep (other_set (fx_ne k_srw k_qbx (by decide))), k_rrw.keep (other_set (fx_ne k_rrw k_qbx (by decide))), k_pbx.keep (other_set (fx_ne k_pbx k_qbx (by decide))), k_kbx.keep (other_set (fx_ne k_kbx k_qbx (by decide))), k_mrw.keep (other_set (fx_ne k_mrw k_qbx (by decide))), k_frw.keep (other_set (fx_ne k_frw k_qbx (by decide))), k_orw.keep (other_set (fx_ne k_orw k_qbx (by decide))), k_us.rep (other_set (Ne.symm h.n5)) (fun i v g hv hg => other_set fun e => by obtain ⟨_, ho⟩ := k_us.own_at hv; exact own_fx ho k_qbx (by decide) (e ▸ hg)), hq.keep fun g hg => other_set fun e => hq.ne k_qbx (by decide) (e ▸ hg), h.n1, h.n2, h.n3, h.n4, h.n5, ⟨hnew _ h.rrw.lt h.nq.1, hnew _ h.mrw.lt h.nq.2.1, hnew _ h.orw.lt h.nq.2.2⟩, fun i v k hv hk => ?_, fun k hk => ?_⟩, hf1.trans (Fr.setCell _ _ fun hk => (h.kp _ hk).2.2.1 rfl)⟩
  · obtain ⟨_, ho⟩ := h.us.own_at hv
    have := h.nu i v k hv hk
    exact ⟨this.1, this.2.1, this.2.2.1, hnew k (owns_lt ho hk) this.2.2.2⟩
  · have := h.kp k hk
    exact ⟨by have := hf1.size; simp; omega, this.2.1, this.2.2.1, this.2.2.2.1, this.2.2.2.2.1, this.2.2.2.2.2.1, this.2.2.2.2.2.2.1, this.2.2.2.2.2.2.2.1, hnew k this.1 this.2.2.2.2.2.2.2.2⟩
end
end Go.Proofs.Ytdholifacnnjcaa

