/- What is known, in memory; has, whole, partly, beats. -/
import Derived.Test.YthifoamnmhlghaaGreatEvr
import Derived.BigQuiet
namespace Go.Proofs.YthifoamnmhlghaaGreat
open Go.RowKit

/-- A theory and facts that may be asked. -/
structure Pf (T : Th) (F : List Int) (n : Nat) : Prop where
  ok : OkT T
  ln : T.lits = (n : Int)
  n4 : n ≤ 4096
  foe : ∀ q : Nat, q < n → ∀ f ∈ row T.foes q, 0 ≤ f ∧ f < (n : Int)
  head : ∀ r ∈ T.rules, 0 ≤ r.head ∧ r.head < (n : Int)
  body : ∀ r ∈ T.rules, ∀ x ∈ r.body, 0 ≤ x ∧ x < (n : Int)
  beat : ∀ l ∈ T.beats, l.Pairwise (· < ·)
  fact : ∀ x ∈ F, 0 ≤ x ∧ x < (n : Int)
theorem risesF_in2 {b : Int} : ∀ {l : List Int} {p : Int}, -1 ≤ p → risesF b p l = true → (∀ x ∈ l, p < x ∧ x < b) ∧ l.Pairwise (· < ·)
  | [], _, _, _ => ⟨fun x hx => (by cases hx), List.Pairwise.nil⟩
  | y :: l, p, hp, h => by
    unfold risesF at h
    split at h
    · cases h
    · rename_i hn
      obtain ⟨h1, h2⟩ := risesF_in2 (p := y) (by omega) h
      refine ⟨fun x hx => ?_, List.pairwise_cons.2 ⟨fun x hx => (h1 x hx).1, h2⟩⟩
      rcases List.mem_cons.1 hx with rfl | hx
      · omega
      · have := h1 x hx; omega
theorem pf_of {T : Th} {F : List Int} (h : faultM T F = 0) : Pf T F T.lits.toNat := by
  unfold faultM at h
  by_cases hc : (checkM T).1 ≠ 0
  · rw [if_pos hc] at h; exact absurd h hc
  · rw [if_neg hc] at h
    have hok := check_ok (Classical.not_not.1 hc)
    have h0 := hok.l0
    have h1 := hok.l1
    have hfl := hok.fl
    have hr : risesM F T.lits = true := by
      cases e : risesM F T.lits with
      | true => rfl
      | false => rw [e] at h; cases h
    obtain ⟨f1, f2⟩ := risesF_in2 (by omega) hr
    refine ⟨hok, by omega, by omega, fun q hq f hf => ?_, fun r hr => ?_, fun r hr x hx => ?_, fun l hl => ?_, fun x hx => ?_⟩
    · obtain ⟨l, hl⟩ := get_at (l := T.foes) (i := q) (by omega)
      rw [row_at (by rw [Int.toNat_natCast]; exact hl)] at hf
      have := (risesF_in2 (by omega) (hok.foe q l hl).2.1).1 f hf
      omega
    · have := hok.rule r hr
      exact ⟨this.2.2.1, by have := this.2.2.2.1; omega⟩
    · have := (risesF_in2 (by omega) (hok.rule r hr).2.2.2.2.2).1 x hx
      omega
    · obtain ⟨i, hi⟩ := List.mem_iff_getElem?.1 hl
      exact (risesF_in2 (by omega) (hok.beat i l hi).1).2
    · have := f1 x hx
      omega
def u8s (l : List Int) : List Value := l.map (Value.int .u8)
theorem u8s_at {l : List Int} {i : Nat} (hi : i < l.length) : (u8s l)[i]? = some (.int .u8 (l.getD i 0)) := by
  unfold u8s
  rw [List.getElem?_map, List.getElem?_eq_getElem hi]
  simp [List.getD, hi]
theorem u8s_len {l : List Int} : (u8s l).length = l.length := by unfold u8s; simp
def facB (F : List Int) (n : Nat) : List Bool := (List.range n).map fun q : Nat => decide ((q : Int) ∈ F)
theorem facB_at {F : List Int} {n q : Nat} (hq : q < n) : (bools (facB F n))[q]? = some (.bool (decide ((q : Int) ∈ F))) := by unfold bools facB; rw [List.getElem?_map, List.getElem?_map, List.getElem?_range hq]; rfl
/-- Where its parts lie. -/
structure Ka where
  fa : Option Addr
  fc : Nat
  ra : Option Addr
  rc : Nat
  ba : Option Addr
  bc : Nat
  fb : Nat
  s0 : Nat
  s1 : Nat
  s2 : Nat
abbrev knL (A : Ka) (T : Th) (n : Nat) (mv : Value) : List Value := [.int .i64 T.lits, .slice A.fa T.foes.length A.fc, .slice A.ra T.rules.length A.rc, .slice A.ba T.beats.length A.bc, .slice (some ⟨A.fb, 0, none⟩) n n, .slice (some ⟨A.s0, 0, none⟩) n n, .slice (some ⟨A.s1, 0, none⟩) n n, .slice (some ⟨A.s2, 0, none⟩) n n, mv]
/-- What is known. -/
structure Kn (K : Nat) (A : Ka) (T : Th) (F : List Int) (n : Nat) (m : List Int) (ma : Option Addr) (mc : Nat) (w : World) : Prop where
  pf : Pf T F n
  bx : Fx K 63 (knL A T n (.slice ma n mc)) w
  ta : TA w.heap.size w T A.fa A.fc A.ra A.rc A.ba A.bc
  ff : Fx A.fb 4 (bools (facB F n)) w
  l0 : Lists w.heap.size w (grp T kS n) (.slice (some ⟨A.s0, 0, none⟩) n n)
  l1 : Lists w.heap.size w (grp T kT n) (.slice (some ⟨A.s1, 0, none⟩) n n)
  l2 : Lists w.heap.size w (grp T kA n) (.slice (some ⟨A.s2, 0, none⟩) n n)
  ml : m.length = n
  mm : At1 w ma (u8s m)
section
variable {K n : Nat} {A : Ka} {T : Th} {F m : List Int} {ma : Option Addr} {mc : Nat} {w w' : World}
theorem Kn.go (h : Kn K A T F n m ma mc w) (hb : Below w.heap.size w w') : Kn K A T F n m ma mc w' :=
  ⟨h.pf, h.bx.keep (hb.block _ h.bx.lt), TR.go hb h.ta, h.ff.keep (hb.block _ h.ff.lt), Lists.go hb h.l0, Lists.go hb h.l1, Lists.go hb h.l2, h.ml, h.mm.below hb⟩
theorem Kn.drewN (h : Kn K A T F n m ma mc w) (q : Nat) : Kn K A T F n m ma mc (w.drewN q) := h.go (below_drewN w q)
def isTag (t : Int) : Prop := t = 1 ∨ t = 2 ∨ t = 3 ∨ t = 4
set_option maxRecDepth 100000 in
set_option maxHeartbeats 3200000 in
theorem bit_any {t : Int} (ht : isTag t) : Calls Tryz.prog 44 #[.int .i64 t] w fun e w' => e = .returned (.int .u8 (bitM t)) ∧ w' = w := by
  rcases ht with rfl | rfl | rfl | rfl
  all_goals
    go_enter Tryz.func44, Tryz.ntmps44
    go_wp2_with fail
    go_ret
    exact ⟨rfl, rfl⟩
set_option maxRecDepth 100000 in
set_option maxHeartbeats 3200000 in
theorem has_kn {q : Nat} {t : Int} (h : Kn K A T F n m ma mc w) (hq : q < n) (ht : isTag t) :
    Calls Tryz.prog 43 #[ptr K, .int .i64 q, .int .i64 t] w fun e w' => e = .returned (.bool (hs m q t)) ∧ Below w.heap.size w w' := by
  have k8 := h.bx.get (i := 8) rfl
  obtain ⟨g, o, rfl, cm⟩ := h.mm q _ (u8s_at (by rw [h.ml]; exact hq))
  have CB := hide fun d : Nat => bit_any (w := w.drewN d) ht
  have HS : Hid ((bits .and .u8 (m.getD q 0) (bitM t) != 0) = hs m q t) := hide (by unfold hs hb; rw [Int.toNat_natCast])
  generalize hs m q t = o at *
  generalize m.getD q 0 = x at *
  generalize bitM t = y at *
  clear h ht
  go_enter Tryz.func43, Tryz.ntmps43
  go_upto_region 1 with fail
  go_quiet ((go_at_call 44; exact Calls.quiet_of_same (CB.out _)))
  go_wp2_with fail
  go_ret
  exact ⟨by rw [← HS.out]; rfl, below_drewN w _⟩
end
end Go.Proofs.YthifoamnmhlghaaGreat
