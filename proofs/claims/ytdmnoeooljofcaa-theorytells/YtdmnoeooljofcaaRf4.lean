/- The document's answer, layer 12: back. -/
import Derived.Test.YtdmnoeooljofcaaRf1
import Derived.Test.YtdmnoeooljofcaaTrj
namespace Go.Proofs.Ytdmnoeooljofcaa.Rf
open Go.RowKit

def hitB (R : List Bool) (x : Int) : Bool := R.getD x.toNat false
theorem hitB_set {R : List Bool} {x y : Int} (hx : 0 ≤ x ∧ x < R.length) (hy : 0 ≤ y) : hitB (R.set x.toNat true) y = (hitB R y || decide (y = x)) := by
  unfold hitB
  rw [List.getD_eq_getElem?_getD, List.getD_eq_getElem?_getD, List.getElem?_set]
  by_cases e : y = x
  · subst e
    rw [if_pos rfl, if_pos (by omega)]
    simp
  · rw [if_neg (by omega), decide_eq_false e, Bool.or_false]
def lackR (R : List Bool) : Nat := (R.filter fun b => !b).length
theorem lackR_set : ∀ {R : List Bool} {n : Nat}, n < R.length → R.getD n false = false → lackR (R.set n true) + 1 = lackR R
  | b :: R, 0, _, h => by
    have hb : b = false := by simpa using h
    subst hb
    simp [lackR]
  | b :: R, n + 1, hn, h => by
    have ih := lackR_set (R := R) (n := n) (by simpa using hn) (by simpa using h)
    unfold lackR at ih ⊢
    rw [List.set_cons_succ, List.filter_cons, List.filter_cons]
    split
    · simp only [List.length_cons]; omega
    · exact ih
theorem lackR_none {n : Nat} : lackR (List.replicate n false) = n := by
  unfold lackR
  rw [List.filter_eq_self.2 (fun b hb => by rw [List.eq_of_mem_replicate hb]; rfl)]
  simp
theorem back_of {next : List (List Int)} {r x : Int} (h : Rt next r x) (hx : r ∈ row next x) : Back next r := by
  cases h with
  | refl => exact ⟨r, hx, .refl _⟩
  | step a b => exact ⟨_, a, b.trans (Rt.edge hx)⟩
/-- A search for the way back: what is seen, what waits, the one at hand and which of its next ones are done. -/
structure Bi (next : List (List Int)) (r : Int) (R : List Bool) (W : List Int) (x : Int) (d : List Int) : Prop where
  ln : R.length = next.length
  inn : ∀ z ∈ W, 0 ≤ z ∧ z < next.length
  rt : ∀ z ∈ W, Rt next r z
  cl : ∀ z, 0 ≤ z → (z = r ∨ hitB R z = true) → z ∉ W → z ≠ x → ∀ y ∈ row next z, y ≠ r ∧ hitB R y = true
  dn : ∀ y ∈ d, y ≠ r ∧ hitB R y = true
section
variable {next : List (List Int)} {r : Int} {R : List Bool} {W : List Int} {x : Int} {d : List Int}
theorem Bi.start (hr : 0 ≤ r ∧ r < next.length) : Bi next r (List.replicate next.length false) [r] (-1) [] := by
  refine ⟨by simp, fun z hz => by simp at hz; subst hz; exact hr, fun z hz => by simp at hz; subst hz; exact .refl _, fun z _ hz hn => ?_, fun y hy => by cases hy⟩
  rcases hz with rfl | hz
  · simp at hn
  · unfold hitB at hz
    rw [List.getD_eq_getElem?_getD, List.getElem?_replicate] at hz
    split at hz <;> simp at hz
theorem Bi.pop {q : List Int} (h : Bi next r R (q ++ [x]) (-1) []) : Bi next r R q x [] := by
  refine ⟨h.ln, fun z hz => h.inn z (by simp [hz]), fun z hz => h.rt z (by simp [hz]), fun z h0 hz hn hx => h.cl z h0 hz (by simp [hn, hx]) (by omega), fun y hy => by cases hy⟩
theorem Bi.seen {y : Int} (h : Bi next r R W x d) (hy : y ≠ r) (hs : hitB R y = true) : Bi next r R W x (d ++ [y]) :=
  ⟨h.ln, h.inn, h.rt, h.cl, fun z hz => by
    rcases List.mem_append.1 hz with hz | hz
    · exact h.dn z hz
    · simp at hz; subst hz; exact ⟨hy, hs⟩⟩
theorem Bi.push {y : Int} (h : Bi next r R W x d) (hin : ∀ z, ∀ o ∈ row next z, 0 ≤ o ∧ o < next.length) (hrx : Rt next r x) (hyx : y ∈ row next x) (hy : y ≠ r) : Bi next r (R.set y.toNat true) (W ++ [y]) x (d ++ [y]) := by
  have hyi := hin x y hyx
  have hyR : 0 ≤ y ∧ y < R.length := by rw [h.ln]; exact hyi
  have up : ∀ z, 0 ≤ z → hitB R z = true → hitB (R.set y.toNat true) z = true := fun z h0 hz => by rw [hitB_set hyR h0, hz]; rfl
  refine ⟨by simp [h.ln], fun z hz => ?_, fun z hz => ?_, fun z h0 hz hn hx => ?_, fun z hz => ?_⟩
  · rcases List.mem_append.1 hz with hz | hz
    · exact h.inn z hz
    · simp at hz; subst hz; exact hyi
  · rcases List.mem_append.1 hz with hz | hz
    · exact h.rt z hz
    · simp at hz; subst hz; exact hrx.trans (Rt.edge hyx)
  · have hn1 : z ∉ W := fun hm => hn (by simp [hm])
    have hn2 : z ≠ y := fun hm => hn (by simp [hm])
    have hz2 : z = r ∨ hitB R z = true := by
      rcases hz with hz | hz
      · exact .inl hz
      · rw [hitB_set hyR h0, decide_eq_false hn2, Bool.or_false] at hz
        exact .inr hz
    intro o ho
    have := h.cl z h0 hz2 hn1 hx o ho
    exact ⟨this.1, up o (hin z o ho).1 this.2⟩
  · rcases List.mem_append.1 hz with hz | hz
    · have := h.dn z hz
      refine ⟨this.1, ?_⟩
      by_cases h0 : 0 ≤ z
      · exact up z h0 this.2
      · have h2 := this.2
        unfold hitB at h2 ⊢
        rw [List.getD_eq_getElem?_getD] at h2 ⊢
        rw [List.getElem?_set]
        split
        · split
          · rfl
          · rename_i h3; exact absurd (by omega) h3
        · exact h2
    · simp at hz; subst hz
      exact ⟨hy, by rw [hitB_set hyR hyi.1, decide_eq_true rfl, Bool.or_true]⟩
theorem Bi.round (h : Bi next r R W x (row next x)) : Bi next r R W (-1) [] :=
  ⟨h.ln, h.inn, h.rt, fun z h0 hz hn _ => by
    by_cases hx : z = x
    · subst hx; exact h.dn
    · exact h.cl z h0 hz hn hx, fun y hy => by cases hy⟩
theorem Bi.done (h : Bi next r R [] (-1) []) (hr : 0 ≤ r) (hin : ∀ z, ∀ o ∈ row next z, 0 ≤ o ∧ o < next.length) : ¬ Back next r := by
  rintro ⟨o, ho, hp⟩
  have key : ∀ {a b : Int}, Rt next a b → 0 ≤ a → a ≠ r → hitB R a = true → b ≠ r := by
    intro a b hab
    induction hab with
    | refl => exact fun _ h _ => h
    | step e _ ih =>
      intro h0 hne hh
      have := h.cl _ h0 (.inr hh) (by simp) (by omega) _ e
      exact ih (hin _ _ e).1 this.1 this.2
  have := h.cl r hr (.inl rfl) (by simp) (by omega) o ho
  exact key hp (hin _ _ ho).1 this.1 this.2 rfl
end

/-- How many are not seen, in memory. -/
def lackH (g : Nat) (w : World) : Nat := match w.heap[g]? with | some (.cells cs _ _) => (cs.toList.filter fun v => match v with | .bool b => !b | _ => false).length | _ => 0
def lenV (v : Value) : Nat := match v with | .slice _ k _ => k | _ => 0
theorem lackH_of {g T : Nat} {R : List Bool} {w : World} (h : Fx g T (bools R) w) : lackH g w = lackR R := by
  unfold lackH
  rw [h]
  simp only
  unfold bools lackR
  rw [List.filter_map, List.length_map]
  congr 1
theorem owns_one (w : World) {b : Nat} (hb : b ≤ w.heap.size) (z : Int) : (w.alloc (.cells #[.int .i64 z] 3)).ownsRow b 3 1 (.slice (some ⟨w.heap.size, 0, none⟩) 1 1) 1 [.int .i64 z] :=
  ⟨rfl, .inr ⟨w.heap.size, 1, #[.int .i64 z], rfl, hb, heap_alloc_new w _, Nat.le_refl _, by unfold maxLen; omega, rfl, rfl⟩⟩
theorem owns_last {w : World} {b : Nat} {q : List Int} {x : Int} {a : Option Addr} {c : Nat} (h : w.ownsRow b 3 1 (.slice a (q.length + 1) c) (q.length + 1) (ints (q ++ [x]))) : ∃ g0, a = some ⟨g0, 0, none⟩ ∧ q.length + 1 ≤ c ∧ w.cell? ⟨g0, q.length, none⟩ = some (.int .i64 x) ∧ w.ownsRow b 3 1 (.slice a q.length c) q.length (ints q) := by
  have hi : (ints (q ++ [x]))[q.length]? = some (.int .i64 x) := by rw [ints_snoc, ← ints_len (l := q), List.getElem?_append_right (Nat.le_refl _), Nat.sub_self]; rfl
  obtain ⟨g0, c', e, h1, _⟩ := owns_at (owns_down h (Nat.zero_le _)) hi
  cases e
  have hr2 := owns_take (m := q.length) h (by omega) (by simp)
  have e1 : (ints (q ++ [x])).take (q.length * 1) = ints q := by rw [ints_snoc, Nat.mul_one, ← ints_len (l := q), List.take_left]
  rw [e1] at hr2
  refine ⟨g0, rfl, ?_, h1, hr2⟩
  rcases h.2 with ⟨e2, h0⟩ | ⟨g', cap, cur, e2, _, _, hcap, _⟩
  · omega
  · have := (Value.slice.inj e2).2.2; omega
/-- The search in memory. -/
structure Bm (w0 : World) (g : Nat) (R : List Bool) (W : List Int) (wv : Value) (w : World) : Prop where
  rr : Fx g 4 (bools R) w
  ro : w.ownsRow w0.heap.size 3 1 wv W.length (ints W)
  lo : Below w0.heap.size w0 w
  gl : w0.heap.size ≤ g
section
variable {w0 w w' : World} {g : Nat} {R : List Bool} {W : List Int} {wv : Value}
theorem Bm.mark (h : Bm w0 g R W wv w) (i : Nat) : Bm w0 g (R.set i true) W wv (w.setCell ⟨g, i, none⟩ (.bool true)) := by
  refine ⟨by rw [← bools_set]; exact h.rr.set i _, owns_keep h.ro fun k hk => other_set fun e => own_fx h.ro h.rr (by decide) (e ▸ hk), h.lo.setCell (p := ⟨g, i, none⟩) h.gl _, h.gl⟩
theorem Bm.more (h : Bm w0 g R W wv w) {x : Int} {g4 cap4 : Nat} {ob : Obj} (hown : w'.ownsRow w0.heap.size 3 1 (.slice (some ⟨g4, 0, none⟩) (W.length + 1) cap4) (W.length + 1) (ints W ++ [.int .i64 x]))
    (hg : (wv.ownBlock = some g4 ∧ (w.alloc ob).grownBy w' (some g4)) ∨ (g4 = w.heap.size + 1 ∧ (w.alloc ob).grownBy w' none)) : Bm w0 g R (W ++ [x]) (.slice (some ⟨g4, 0, none⟩) (W.length + 1) cap4) w' := by
  have hs := h.lo.size
  refine ⟨h.rr.keep (grown_old rfl hg h.rr.lt (own_fx h.ro h.rr (by decide))), by rw [ints_snoc, List.length_append]; exact hown, h.lo.trans ((grown_fr (Z := fun k => w0.heap.size ≤ k) rfl hg fun k e => (h.ro.lt k e).1).below fun k hk => ⟨by omega, by omega⟩), h.gl⟩
end
theorem lists_in {next : List (List Int)} (hin : ∀ (i : Nat) l, next[i]? = some l → ∀ z ∈ l, 0 ≤ z ∧ z < (next.length : Int)) : ∀ z, ∀ o ∈ row next z, 0 ≤ o ∧ o < (next.length : Int) := fun z o ho => by
  unfold row at ho
  rw [List.getD_eq_getElem?_getD] at ho
  cases e : next[z.toNat]? with
  | none => rw [e] at ho; simp at ho
  | some l => rw [e] at ho; exact hin _ l e o ho
end Go.Proofs.Ytdmnoeooljofcaa.Rf
/- The document's answer, layer 12: back, walked. -/
namespace Go.Proofs.Ytdmnoeooljofcaa.Rf
open Go.RowKit

theorem row_get {next : List (List Int)} {x : Nat} {l : List Int} (h : next[x]? = some l) : row next (x : Int) = l := row_at (by simpa using h)
theorem split_last {W : List Int} (h : 0 < W.length) : ∃ q x, W = q ++ [x] := ⟨W.dropLast, W.getLast (by intro e; rw [e] at h; simp at h), (List.dropLast_concat_getLast _).symm⟩
set_option maxRecDepth 100000 in
set_option maxHeartbeats 12800000 in
theorem back_any {w : World} {next : List (List Int)} {ba : Option Addr} {bc r : Nat} (h : Lists w.heap.size w next (.slice ba next.length bc)) (hn : next.length ≤ 4096) (hin : ∀ (i : Nat) l, next[i]? = some l → ∀ z ∈ l, 0 ≤ z ∧ z < (next.length : Int)) (hr : r < next.length) :
    Calls Try.prog 48 #[.slice ba next.length bc, .int .i64 r] w fun e w' => (∃ b : Bool, e = .returned (.bool b) ∧ (b = true ↔ Back next (r : Int))) ∧ Below w.heap.size w w' := by
  obtain ⟨iI, hiI, zI0, zI1, zI2⟩ := info_parts infoI
  obtain ⟨iB, hiB, zB0, zB1, zB2⟩ := info_parts infoBo
  have HIn := hide (lists_in hin)
  have HI2 := hide hin
  have HL := hide h
  generalize hnn : next.length = n at *
  have HNN := hide hnn
  replace HIn : Hid (∀ z, ∀ o ∈ row next z, 0 ≤ o ∧ o < (next.length : Int)) := hide (by rw [hnn]; exact HIn.out)
  have hs1 : (w.alloc (.cells (Array.replicate n (.bool false)) 4)).heap.size = w.heap.size + 1 := by simp
  have BM0 : Hid (Bm w w.heap.size (List.replicate n false) [(r : Int)] (.slice (some ⟨w.heap.size + 1, 0, none⟩) 1 1) ((w.alloc (.cells (Array.replicate n (.bool false)) 4)).alloc (.cells #[.int .i64 r] 3))) := hide (by
    have hA := below_new w (.cells (Array.replicate n (.bool false)) 4)
    have hN := heap_alloc_new w (.cells (Array.replicate n (.bool false)) 4)
    have hB := below_new (w.alloc (.cells (Array.replicate n (.bool false)) 4)) (.cells #[.int .i64 r] 3)
    refine ⟨?_, ?_, hA.trans (hB.mono hA.size), Nat.le_refl _⟩
    · unfold Fx
      rw [hB.block _ (by rw [hs1]; omega), hN, bools_rep]
    · have := owns_one (w.alloc (.cells (Array.replicate n (.bool false)) 4)) (b := w.heap.size) (by rw [hs1]; omega) r
      rw [hs1] at this
      exact this)
  have BI0 : Hid (Bi next r (List.replicate n false) [(r : Int)] (-1) []) := hide (by rw [← hnn]; exact Bi.start (by omega))
  have HS1 := hide hs1
  clear h hin hnn hs1
  go_enter Try.func48, Try.ntmps48
  go_upto_region 2 with (at_make; go_must (refine wpList_make_fix _ rfl _ _ 80 rfl 4 iB _ Try.underlying80 hiB zB0 zB1 rfl _ _ n rfl rfl rfl rfl (by rw [zB2]; omega) (by unfold maxLen; omega) ?_))
  generalize w.alloc (.cells (Array.replicate n (.bool false)) 4) = W at *
  go_wp2_with fail
  rw [HS1.out]
  generalize W.alloc (.cells #[.int .i64 r] 3) = W1 at *
  clear HS1
  go_loopw [6] (fun y wr => ∃ (R : List Bool) (Q : List Int) (a : Option Addr) (c : Nat), y = .slice a Q.length c ∧ Q.length + lackR R ≤ n + 1 ∧ Hid (Bi next r R Q (-1) []) ∧ Hid (Bm w w.heap.size R Q (.slice a Q.length c) wr)) (fun y wr => lenV y + lackH w.heap.size wr)
  case atStart => exact ⟨List.replicate n false, [(r : Int)], _, _, rfl, by rw [lackR_none]; simp; omega, BI0, BM0⟩
  case round =>
    clear BI0 BM0
    obtain ⟨R, Q, a, c, rfl, hQ, BI, BM⟩ := hrel
    have hlk := lackH_of BM.out.rr
    by_cases hlt : 0 < Q.length
    · obtain ⟨q, x, rfl⟩ := split_last hlt
      have hql : (q ++ [x]).length = q.length + 1 := by simp
      rw [hql] at hQ hlt BM ⊢
      have hro := BM.out.ro
      rw [hql] at hro
      obtain ⟨g0, rfl, hc, kx, HO⟩ := owns_last hro
      obtain ⟨hx0, hx1⟩ := BI.out.inn x (by simp)
      have HRx := hide (BI.out.rt x (by simp))
      obtain ⟨m, rfl⟩ := Int.eq_ofNat_of_zero_le hx0
      have hmn : m < n := by have := HNN.out; omega
      have BI1 := hide BI.out.pop
      have BM1 : Hid (Bm w w.heap.size R q (.slice (some ⟨g0, 0, none⟩) q.length c) wr) := hide ⟨BM.out.rr, HO, BM.out.lo, BM.out.gl⟩
      obtain ⟨l, hl⟩ := get_at (l := next) (i := m) (by rw [HNN.out]; exact hmn)
      have HL2 := hide hl
      have hRow := row_get hl
      have HRow := hide hRow
      have HLI := hide (HI2.out m l hl)
      have hll : l.length ≤ 140737488351232 := by obtain ⟨_, _, _, _, _, _, _, _, h, _⟩ := at_L HL.out hl; exact h
      have HBI2 : Hid (Bi next r R q m (l.take 0)) := BI1
      have HLK := hide hlk
      clear hl hRow hx0 hx1 BI BI1 BM HO hlk hro
      generalize hT : q.length + lackR R = tot at *
      have hT2 : tot ≤ n := by omega
      have HT : Hid (q.length + lackR R ≤ tot) := hide (by omega)
      clear hQ hlt hql
      go_wp2_with fail
      clear kx
      go_loopw [6, 8] (fun y z ws => ∃ (i : Nat) (R : List Bool) (Q : List Int) (a : Option Addr) (c : Nat), i ≤ l.length ∧ z = .int .i64 i ∧ y = .slice a Q.length c ∧ Hid (Q.length + lackR R ≤ tot) ∧ Hid (Bi next r R Q m (l.take i)) ∧ Hid (Bm w w.heap.size R Q (.slice a Q.length c) ws)) (fun _ z _ => l.length - (intOf z).toNat)
      case atStart => exact ⟨0, R, q, _, _, by omega, rfl, rfl, HT, HBI2, BM1⟩
      case round =>
        clear HBI2 BM1 HT
        obtain ⟨i, R2, Q, a, c, hi, rfl, rfl, HT, BI, BM⟩ := hrel
        obtain ⟨g, of, a2, d2, rfl, -, kc, -, -, hI⟩ := at_L (HL.out.keep BM.out.lo.block) HL2.out
        by_cases hil : i < l.length
        · obtain ⟨y, hy⟩ := get_at hil
          obtain ⟨g3, o3, rfl, ky⟩ := hI.at1.get hy
          have hym := List.mem_of_getElem? hy
          obtain ⟨hy0, hy1⟩ := HLI.out y hym
          have HTk := hide (take_snoc hy)
          by_cases hyr : y = (r : Int)
          · subst hyr
            have HN : Hid (Back next (r : Int)) := hide (back_of HRx.out (by rw [HRow.out]; exact hym))
            have HLo := hide BM.out.lo
            clear hI hy hym HTk BI BM HT
            go_wp2_with fail
            go_ret
            exact ⟨⟨true, rfl, fun _ => HN.out, fun _ => rfl⟩, HLo.out⟩
          · obtain ⟨p, rfl⟩ := Int.eq_ofNat_of_zero_le hy0
            have hpn : p < n := by omega
            have hyb : ((p : Int) == (r : Int)) = false := beq_eq_false_iff_ne.2 hyr
            have kb := BM.out.rr.get (bools_at (l := R2) (i := p) (by rw [BI.out.ln, HNN.out]; exact hpn))
            by_cases hs : R2.getD p false = true
            · rw [hs] at kb
              have BI2 : Hid (Bi next r R2 Q m (l.take (i + 1))) := hide (by rw [HTk.out]; exact BI.out.seen hyr (by unfold hitB; simpa using hs))
              clear hI hy hym HTk BI hs hyr
              go_wp2_with fail
              go_roundw
              case rel => exact ⟨i + 1, R2, Q, _, _, by omega, by go_num, rfl, HT, BI2, BM⟩
              case measure => simp [intOf]; omega
            · have hs' : R2.getD p false = false := by simpa using hs
              rw [hs'] at kb
              have BI2 : Hid (Bi next r (R2.set p true) (Q ++ [(p : Int)]) m (l.take (i + 1))) := hide (by rw [HTk.out]; exact BI.out.push HIn.out HRx.out (by rw [HRow.out]; exact hym) hyr)
              have hpR : p < R2.length := by rw [BI.out.ln, HNN.out]; exact hpn
              have HT2 : Hid ((Q ++ [(p : Int)]).length + lackR (R2.set p true) ≤ tot) := hide (by have := lackR_set hpR hs'; have := HT.out; rw [List.length_append]; simp; omega)
              have hQl : Q.length ≤ n := by have := HT.out; omega
              have kf := BM.out.rr.frz p
              have BM2 := hide (BM.out.mark p)
              clear hI hy hym HTk BI hs hyr HT BM
              go_upto_region 14 with fail
              generalize wr.setCell ⟨w.heap.size, p, none⟩ (.bool true) = wq at *
              clear kb kf ky kc hs'
              have hA := below_new wq (.cells #[.int .i64 p] 3)
              have HROW := hide (owns_keep BM2.out.ro fun g hg => hA.block g (owns_lt BM2.out.ro hg))
              have hw2 : w.heap.size ≤ wq.heap.size := BM2.out.lo.size
              clear hA
              go_wp2_with (at_builtin; go_must (refine wpList_append_two _ rfl _ _ 38 rfl w.heap.size 3 iI _ 1 8 Try.underlying38 hiI zI0 zI1 zI2 rfl (by decide) _ _ (ints Q) rfl HROW.out ⟨wq.heap.size, 0, none⟩ 1 [.int .i64 p] rfl rfl (cell_one_new _ _ _) (by intro u hu; simp at hu; subst hu; rfl) (by unfold maxLen; omega) (by omega) (by simp; omega) ?_); intro g4 cap4 w4 hown4 hg4)
              have hg5 : (Value.ownBlock (.slice a Q.length c) = some g4 ∧ (wq.alloc (.cells #[.int .i64 p] 3)).grownBy w4 (some g4)) ∨ (g4 = wq.heap.size + 1 ∧ (wq.alloc (.cells #[.int .i64 p] 3)).grownBy w4 none) := by
                rcases hg4 with h | ⟨h1, h2⟩
                · exact .inl h
                · exact .inr ⟨by simpa using h1, h2⟩
              have BM3 := hide (BM2.out.more hown4 hg5)
              clear hown4 hg4 hg5 HROW BM2
              go_roundw
              case rel => exact ⟨i + 1, R2.set p true, Q ++ [(p : Int)], _, _, by omega, by go_num, by rw [List.length_append]; rfl, HT2, BI2, by rw [List.length_append]; exact BM3⟩
              case measure => simp [intOf]; omega
        · have BI2 : Hid (Bi next r R2 Q (-1) []) := hide (by have := BI.out; rw [List.take_of_length_le (by omega), ← HRow.out] at this; exact this.round)
          have HLK2 := hide (lackH_of BM.out.rr)
          clear BI hI
          go_wp2_with fail
          go_roundw
          case rel => exact ⟨R2, Q, _, _, rfl, by have := HT.out; omega, BI2, BM⟩
          case measure => rw [HLK.out, HLK2.out]; have := HT.out; simp only [lenV]; omega
    · have hQ0 : Q = [] := List.eq_nil_of_length_eq_zero (by omega)
      subst hQ0
      have HN : Hid (¬ Back next (r : Int)) := hide (BI.out.done (by omega) HIn.out)
      have HLo := hide BM.out.lo
      clear BI BM hlk
      go_wp2_with fail
      go_ret
      exact ⟨⟨false, rfl, fun h => (Bool.noConfusion h), fun h => (HN.out h).elim⟩, HLo.out⟩
end Go.Proofs.Ytdmnoeooljofcaa.Rf
/- The document's answer, layer 12: Check. -/
namespace Go.Proofs.Ytdmnoeooljofcaa.Rf
open Go.RowKit

theorem foe_len {T : Th} (h : (T.foes.length : Int) ≠ T.lits) : foeM T = (121, 0) := by unfold foeM; rw [if_pos h]
theorem foe_at {T : Th} (hl : (T.foes.length : Int) = T.lits) {k : Nat} (h : firstB (badFoe T) 0 T.foes = some k) : foeM T = (121, (k : Int)) := by unfold foeM; rw [if_neg (by omega), h]; rfl
theorem foe_no {T : Th} (hl : (T.foes.length : Int) = T.lits) (h : firstB (badFoe T) 0 T.foes = none) : (foeM T).1 = 0 := by unfold foeM; rw [if_neg (by omega), h]; rfl
theorem rule_len {T : Th} (h : 4096 < T.rules.length) : ruleM T = (111, 0) := by unfold ruleM; rw [if_pos h]
theorem rule_at {T : Th} (hl : ¬ 4096 < T.rules.length) {k : Nat} (h : firstB (fun _ r => !okRule T.lits r) 0 T.rules = some k) : ruleM T = (122, (k : Int)) := by unfold ruleM; rw [if_neg hl, h]; rfl
theorem rule_no {T : Th} (hl : ¬ 4096 < T.rules.length) (h : firstB (fun _ r => !okRule T.lits r) 0 T.rules = none) : (ruleM T).1 = 0 := by unfold ruleM; rw [if_neg hl, h]; rfl
theorem beat_len {T : Th} (h : T.beats.length ≠ T.rules.length) : beatM T = (123, 0) := by unfold beatM; rw [if_pos h]
theorem beat_at {T : Th} (hl : T.beats.length = T.rules.length) {k : Nat} (h : firstB (badBeat T) 0 T.beats = some k) : beatM T = (123, (k : Int)) := by unfold beatM; rw [if_neg (by omega), h]; rfl
theorem beat_no {T : Th} (hl : T.beats.length = T.rules.length) (h : firstB (badBeat T) 0 T.beats = none) : (beatM T).1 = 0 := by unfold beatM; rw [if_neg (by omega), h]; rfl
theorem pr_big {T : Th} (h : 65536 < pairsM T) : prM T = 65537 ∧ pairM T = (113, 0) := by unfold prM pairM; rw [if_pos h, if_pos h]; exact ⟨rfl, rfl⟩
theorem pr_small {T : Th} (h : ¬ 65536 < pairsM T) : prM T ≤ 65536 ∧ 0 ≤ prM T ∧ (pairM T).1 = 0 := by unfold prM pairM; rw [if_neg h, if_neg h]; exact ⟨by omega, by omega, rfl⟩
theorem okRule_no {T : Th} {x : RuleM} (h : x.kind < 1 ∨ 3 < x.kind ∨ x.head < 0 ∨ T.lits ≤ x.head ∨ 16 < x.body.length ∨ risesM x.body T.lits = false) : (!okRule T.lits x) = true := by
  rw [Bool.not_eq_true']
  cases e : okRule T.lits x with
  | false => rfl
  | true =>
    obtain ⟨h1, h2, h3, h4, h5⟩ : (x.kind = 1 ∨ x.kind = 2 ∨ x.kind = 3) ∧ 0 ≤ x.head ∧ x.head < T.lits ∧ x.body.length ≤ 16 ∧ risesM x.body T.lits = true := by
      unfold okRule inM at e
      simp only [Bool.and_eq_true, Bool.or_eq_true, decide_eq_true_eq] at e
      exact ⟨by omega, e.1.1.2.1, e.1.1.2.2, e.1.2, e.2⟩
    rcases h with h | h | h | h | h | h
    · omega
    · omega
    · omega
    · omega
    · omega
    · rw [h5] at h; cases h
theorem okRule_yes {T : Th} {x : RuleM} (h1 : 1 ≤ x.kind) (h2 : x.kind ≤ 3) (h3 : 0 ≤ x.head) (h4 : x.head < T.lits) (h5 : x.body.length ≤ 16) (h6 : risesM x.body T.lits = true) : (!okRule T.lits x) = false := by
  rw [Bool.not_eq_false']
  unfold okRule inM
  simp only [Bool.and_eq_true, Bool.or_eq_true, decide_eq_true_eq]
  exact ⟨⟨⟨by omega, h3, h4⟩, h5⟩, h6⟩
theorem beats_next {T : Th} (hf : (foeM T).1 = 0) (hru : (ruleM T).1 = 0) (hb : (beatM T).1 = 0) : ∀ p, Inn T.beats.length p → p ∉ row T.beats p ∧ ∀ o ∈ row T.beats p, Inn T.beats.length o := by
  obtain ⟨f1, f2⟩ := foe_ok hf
  obtain ⟨r1, r2⟩ := rule_ok hru
  obtain ⟨b1, b2⟩ := beat_ok hb
  intro p hp
  obtain ⟨i, rfl⟩ := Int.eq_ofNat_of_zero_le hp.1
  have hi : i < T.beats.length := by have := hp.2; omega
  obtain ⟨l, hl⟩ := get_at hi
  have hrow := row_get hl
  rw [hrow]
  have hb2 := b2 i l hl
  refine ⟨fun hm => ?_, fun o ho => ?_⟩
  · have h1 := hb2.2 _ hm
    obtain ⟨x, hx⟩ := get_at (l := T.rules) (i := i) (by omega)
    have hh : headOf T (i : Int) = x.head := head_at (by simpa using hx)
    rw [hh] at h1
    obtain ⟨-, -, h3, h4, -, -⟩ := r2 x (List.mem_of_getElem? hx)
    obtain ⟨m, hm2⟩ := Int.eq_ofNat_of_zero_le h3
    rw [hm2] at h1
    obtain ⟨fl, hfl⟩ := get_at (l := T.foes) (i := m) (by omega)
    rw [row_get hfl] at h1
    exact (f2 m fl hfl).2.2.1 h1
  · have := (rises_iff.1 hb2.1).1 o ho
    exact ⟨by omega, by omega⟩
theorem circ_yes {T : Th} (hf : (foeM T).1 = 0) (hru : (ruleM T).1 = 0) (hb : (beatM T).1 = 0) {i : Nat} (hi : i < T.beats.length) (h : Back T.beats i) (hno : ∀ q : Nat, q < i → ¬ Back T.beats q) : circleM T = (131, (i : Int)) := by
  rcases circle_back (beats_next hf hru hb) (beat_ok hb).1 with ⟨r, hr, h1, h2, h3⟩ | ⟨h1, _⟩
  · have : r = i := by
      apply Classical.byContradiction
      intro hne
      by_cases hlt : r < i
      · exact hno r hlt h1
      · exact h2 i (by omega) h
    rw [← this]
    exact h3
  · exact (h1 i (by have := (beat_ok hb).1; omega) h).elim
theorem circ_no {T : Th} (hf : (foeM T).1 = 0) (hru : (ruleM T).1 = 0) (hb : (beatM T).1 = 0) (hno : ∀ q : Nat, q < T.beats.length → ¬ Back T.beats q) : circleM T = (0, 0) := by
  rcases circle_back (beats_next hf hru hb) (beat_ok hb).1 with ⟨r, hr, h1, _⟩ | ⟨_, h⟩
  · exact (hno r (by have := (beat_ok hb).1; omega) h1).elim
  · exact h
end Go.Proofs.Ytdmnoeooljofcaa.Rf
