/- The document's Cone: sweeps until nothing is new. -/
import Derived.Test.YtdmnoeooljofcaaTel3
import Derived.Test.YtdmnoeooljofcaaConeR
import Derived.Test.YtdmnoeooljofcaaConC
namespace Go.Proofs.Ytdmnoeooljofcaa.Rf
open Go.RowKit Cz

/-- Marks in memory. -/
structure Bm2 (B n : Nat) (R : List Bool) (w : World) : Prop where
  fx : Fx B 4 (bools R) w
  ln : R.length = n
section
variable {B n : Nat} {R : List Bool} {w w' : World}
theorem Bm2.go (h : Bm2 B n R w) (hb : Below w.heap.size w w') : Bm2 B n R w' := ⟨h.fx.keep (hb.block _ h.fx.lt), h.ln⟩
theorem Bm2.set (h : Bm2 B n R w) (i : Nat) : Bm2 B n (R.set i true) (w.setCell ⟨B, i, none⟩ (.bool true)) := ⟨by rw [← bools_set]; exact h.fx.set i _, by rw [List.length_set]; exact h.ln⟩
theorem Bm2.get (h : Bm2 B n R w) {i : Nat} (hi : i < n) : w.cell? ⟨B, i, none⟩ = some (.bool (R.getD i false)) := h.fx.get (boolz_at (by rw [h.ln]; exact hi))
end
/-- How many are not marked, read off the world; and one more where the sweep goes on. -/
def swp (g : Nat) (x : Value) (w : World) : Nat := 2 * (match w.heap[g]? with | some (.cells cs _ _) => (cs.toList.filter fun v => match v with | .bool b => !b | _ => false).length | _ => 0) + (match x with | .bool b => (if b then 1 else 0) | _ => 0)
theorem swp_of {B n : Nat} {R : List Bool} {w : World} (h : Bm2 B n R w) (b : Bool) : swp B (.bool b) w = 2 * offC R + if b then 1 else 0 := by
  have hg : w.heap[B]? = some (.cells (bools R).toArray 4 (0, 0)) := h.fx
  unfold swp
  rw [hg]
  have : ((bools R).filter fun v => match v with | .bool b => !b | _ => false).length = offC R := by
    unfold offC bools
    rw [List.filter_map, List.length_map, List.count_eq_length_filter]
    congr 1
    apply List.filter_congr
    intro x _
    cases x <;> rfl
  simp only [this]
/-- What a sweep keeps. -/
structure Sw (T : Th) (l : List Int) (n : Nat) (R0 : List Bool) (b : Bool) (R : List Bool) : Prop where
  cr : Cr T l n R
  off : offC R + (if b then 1 else 0) ≤ offC R0
section
variable {T : Th} {l : List Int} {n : Nat} {R0 R : List Bool} {b : Bool}
theorem Sw.set (h : Sw T l n R0 b R) {q : Nat} (hq : q < n) (hr : Rch T l (q : Int)) (hl : ∀ x ∈ l, 0 ≤ x) (hn : R.getD q false = false) : Sw T l n R0 true (R.set q true) := by
  refine ⟨h.cr.set hq hr hl, ?_⟩
  have h1 := off_set (R := R) (q := q) (by rw [h.cr.ln]; exact hq) hn
  have h2 := h.off
  simp only [if_true]
  omega
theorem hit_nat {q : Nat} : hit R (q : Int) = R.getD q false := by unfold hit; rw [Int.toNat_natCast]
theorem Cr.more {x : Nat} (h : Cr T l n R) (hx : x < n) (hl : ∀ x ∈ l, 0 ≤ x) : Cr T (l ++ [(x : Int)]) n (R.set x true) := by
  have hup : ∀ y, Rch T l y → Rch T (l ++ [(x : Int)]) y := fun y hy => by
    induction hy with
    | base hx => exact .base (by simp [hx])
    | step _ he ih => exact .step ih he
  have hqb : 0 ≤ (x : Int) ∧ (x : Int) < R.length := ⟨by omega, by rw [h.ln]; omega⟩
  have e : ∀ y, 0 ≤ y → hit (R.set x true) y = (hit R y || decide (y = (x : Int))) := fun y hy => by
    have := hit_set (R := R) (x := (x : Int)) hqb hy
    rwa [Int.toNat_natCast] at this
  refine ⟨by rw [List.length_set]; exact h.ln, fun y hy => ?_, fun y h0 hy => ?_⟩
  · rcases List.mem_append.1 hy with hy | hy
    · rw [e y (hl y hy), h.base y hy]; rfl
    · have : y = (x : Int) := by simpa using hy
      subst this
      rw [e _ (by omega)]; simp
  · rw [e y h0, Bool.or_eq_true] at hy
    rcases hy with hy | hy
    · exact hup y (h.snd y h0 hy)
    · rw [of_decide_eq_true hy]; exact .base (by simp)
theorem Cr.zero : Cr T [] n (List.replicate n false) := by
  refine ⟨by simp, fun x hx => by simp at hx, fun y h0 hy => ?_⟩
  unfold hit at hy
  rw [List.getD_eq_getElem?_getD, List.getElem?_replicate] at hy
  split at hy <;> cases hy
end
set_option maxRecDepth 100000 in
set_option maxHeartbeats 6400000 in
theorem rnumbers_any {g c : Nat} {R : List Bool} {w : World} (h : Fx g 4 (bools R) w) (hl : R.length ≤ 4096) :
    Calls Try.prog 37 #[.slice (some ⟨g, 0, none⟩) R.length c] w fun e w' => ∃ a d, e = .returned (.slice a (placesM R).length d) ∧ At1 w' a (ints (placesM R)) ∧ Below w.heap.size w w' := by
  obtain ⟨iI, hiI, zI0, zI1, zI2⟩ := info_parts infoI
  have HF := hide h
  obtain ⟨n, hn⟩ : ∃ n, R.length = n := ⟨_, rfl⟩
  have HN := hide hn
  rw [hn] at hl
  unfold placesM
  rw [hn]
  clear h hn
  go_enter Try.func37, Try.ntmps37
  go_wp2_with fail
  go_loopw [3, 4] (fun y x wr => ∃ (k : Nat) (acc : List Int) (a : Option Addr) (d : Nat), k ≤ n ∧ x = .int .i64 k ∧ y = .slice a acc.length d ∧ acc.length ≤ k ∧ Hid (acc = placesK R k) ∧ Hid (wr.ownsRow w.heap.size 3 1 (.slice a acc.length d) acc.length (ints acc)) ∧ Hid (Below w.heap.size w wr)) (fun _ x _ => n - (intOf x).toNat)
  case atStart => exact ⟨0, [], none, 0, by omega, rfl, rfl, by simp, hide rfl, hide ⟨rfl, .inl ⟨rfl, rfl⟩⟩, hide (Below.refl _ _)⟩
  case round =>
    obtain ⟨k, acc, a, d, hk, rfl, rfl, hal, HA, HRow, HB⟩ := hrel
    by_cases hlt : k < n
    · have hF := HF.out.keep (HB.out.block g HF.out.lt)
      cases hr : R.getD k false with
      | true =>
        have cx := hF.get (boolz_at (R := R) (k := k) (by rw [HN.out]; exact hlt))
        rw [hr] at cx
        have HP := hide (placesK_yes hr)
        have hA := below_new wr (.cells #[.int .i64 k] 3)
        have HROW := hide (owns_keep HRow.out fun g hg => hA.block g (owns_lt HRow.out hg))
        have hw2 : w.heap.size ≤ wr.heap.size := HB.out.size
        clear hr hF hA
        go_upto_region 6 with fail
        clear cx
        go_upto_region 4 with (at_builtin; go_must (refine wpList_append_two _ rfl _ _ 38 rfl w.heap.size 3 iI _ 1 8 Try.underlying38 hiI zI0 zI1 zI2 rfl (by decide) _ _ (ints acc) rfl HROW.out ⟨wr.heap.size, 0, none⟩ 1 [.int .i64 k] rfl rfl (cell_one_new _ _ _) (by intro u hu; simp at hu; subst hu; rfl) (by unfold maxLen; omega) (by omega) (by simp; omega) ?_); intro g4 cap4 w4 hown4 hg4)
        have hg5 : (Value.ownBlock (.slice a acc.length d) = some g4 ∧ (wr.alloc (.cells #[.int .i64 k] 3)).grownBy w4 (some g4)) ∨ (g4 = wr.heap.size + 1 ∧ (wr.alloc (.cells #[.int .i64 k] 3)).grownBy w4 none) := by
          rcases hg4 with h | ⟨h1, h2⟩
          · exact .inl h
          · exact .inr ⟨by simpa using h1, h2⟩
        have HF4 := hide (HB.out.trans ((grown_fr (Z := fun k => w.heap.size ≤ k) rfl hg5 fun g e => (HRow.out.lt g e).1).below fun k hk => ⟨by omega, by omega⟩))
        have HO4 := hide hown4
        clear hown4 hg4 hg5
        go_wp2_with fail
        go_roundw
        case rel => exact ⟨k + 1, acc ++ [(k : Int)], some ⟨g4, 0, none⟩, cap4, by omega, by go_num, by rw [List.length_append]; rfl, by rw [List.length_append]; simp; omega, hide (by rw [HA.out]; exact HP.out.symm), hide (by rw [List.length_append, ints_snoc]; exact HO4.out), HF4⟩
        case measure => simp [intOf]; omega
      | false =>
        have cx := hF.get (boolz_at (R := R) (k := k) (by rw [HN.out]; exact hlt))
        rw [hr] at cx
        have HP := hide (placesK_no hr)
        clear hr hF
        go_wp2_with fail
        go_roundw
        case rel => exact ⟨k + 1, acc, a, d, by omega, by go_num, rfl, by omega, hide (by rw [HA.out]; exact HP.out.symm), HRow, HB⟩
        case measure => simp [intOf]; omega
    · have hkn : k = n := by omega
      subst hkn
      go_wp2_with fail
      go_ret
      rw [← HA.out]
      exact ⟨a, d, rfl, owns_at1 HRow.out, HB.out⟩
/-- What Cone answers. -/
def rCnd (T : Th) (l : List Int) (e : Ending) (w' : World) : Prop :=
  ((checkM T).1 ≠ 0 ∧ e = .returned (.tuple #[.slice none 0 0, .int .i64 (checkM T).1])) ∨
  ((checkM T).1 = 0 ∧ (∃ x ∈ l, ¬ (0 ≤ x ∧ x < T.lits)) ∧ e = .returned (.tuple #[.slice none 0 0, .int .i64 91])) ∨
  ((checkM T).1 = 0 ∧ (∀ x ∈ l, 0 ≤ x ∧ x < T.lits) ∧ ∃ (R : List Bool) (xa : Option Addr) (xc : Nat), R.length = T.lits.toNat ∧ (∀ y, 0 ≤ y → (hit R y = true ↔ Rch T l y)) ∧ e = .returned (.tuple #[.slice xa (placesM R).length xc, .int .i64 0]) ∧ At1 w' xa (ints (placesM R)))
end Go.Proofs.Ytdmnoeooljofcaa.Rf
