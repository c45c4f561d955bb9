/- Rows of tokens and of texts, read; whether two are one. -/
import Derived.Test.YtlllgndbcagkgaaRefWalk
namespace Go.Proofs.Ytlllgndbcagkgaa
open Go.RowKit

/-- A row of tokens lies at an address. -/
def RowT (w : World) (a : Option Addr) (tk : List Tok) : Prop :=
  ∀ j t, tk[j]? = some t → ∃ b o, a = some ⟨b, o, none⟩ ∧ w.cell? ⟨b, o + j * 3, none⟩ = some (.int .i64 t.kind) ∧ w.cell? ⟨b, o + j * 3 + 1, none⟩ = some (strV t.text) ∧ w.cell? ⟨b, o + j * 3 + 2, none⟩ = some (.int .i64 t.place)

/-- A row of texts lies at an address. -/
def RowS (w : World) (a : Option Addr) (rm : List (List UInt8)) : Prop := ∀ j t, rm[j]? = some t → ∃ b o, a = some ⟨b, o, none⟩ ∧ w.cell? ⟨b, o + j, none⟩ = some (strV t)

theorem add_at (g j : Nat) : (⟨g, 0, none⟩ : Addr).add j = ⟨g, j, none⟩ := by unfold Addr.add; split <;> simp_all

theorem cellsT_at (tk : List Tok) : ∀ (j : Nat) (t : Tok), tk[j]? = some t → (cellsT tk)[j * 3]? = some (.int .i64 t.kind) ∧ (cellsT tk)[j * 3 + 1]? = some (strV t.text) ∧ (cellsT tk)[j * 3 + 2]? = some (.int .i64 t.place) := by
  induction tk with
  | nil => intro j t h; simp at h
  | cons a l ih =>
    intro j t h
    have e : cellsT (a :: l) = .int .i64 a.kind :: strV a.text :: .int .i64 a.place :: cellsT l := by simp [cellsT]
    rw [e]
    cases j with
    | zero => simp at h; subst h; simp
    | succ j =>
      have := ih j t (by simpa using h)
      have e1 : (j + 1) * 3 = j * 3 + 3 := by omega
      rw [e1]
      simpa using this

theorem own_rowT {w : World} {B : Nat} {v : Value} {tk : List Tok} (h : w.ownsRow B 47 3 v tk.length (cellsT tk)) : ∃ a c, v = .slice a tk.length c ∧ RowT w a tk := by
  rcases h.2 with ⟨h1, h2⟩ | ⟨g, cap, cur, rfl, h2, h3, h4⟩
  · refine ⟨none, 0, by rw [h1, h2], fun j t hj => ?_⟩
    have : tk = [] := List.eq_nil_of_length_eq_zero h2
    subst this; simp at hj
  · refine ⟨some ⟨g, 0, none⟩, cap, rfl, fun j t hj => ?_⟩
    have := cellsT_at tk j t hj
    have hc : ∀ j u, (cellsT tk)[j]? = some u → w.cell? ⟨g, j, none⟩ = some u := fun j u hu => by have := h.cells (g := g) rfl j u hu; rwa [add_at] at this
    refine ⟨g, 0, rfl, ?_⟩
    rw [Nat.zero_add]
    exact ⟨hc _ _ this.1, hc _ _ this.2.1, hc _ _ this.2.2⟩

theorem own_rowS {w : World} {B : Nat} {v : Value} {rm : List (List UInt8)} (h : w.ownsRow B 9 1 v rm.length (rm.map strV)) : ∃ a c, v = .slice a rm.length c ∧ RowS w a rm := by
  rcases h.2 with ⟨h1, h2⟩ | ⟨g, cap, cur, rfl, h2, h3, h4⟩
  · refine ⟨none, 0, by rw [h1, h2], fun j t hj => ?_⟩
    have : rm = [] := List.eq_nil_of_length_eq_zero h2
    subst this; simp at hj
  · refine ⟨some ⟨g, 0, none⟩, cap, rfl, fun j t hj => ?_⟩
    have := h.cells (g := g) rfl j (strV t) (by simp [hj])
    refine ⟨g, 0, rfl, ?_⟩
    rw [Nat.zero_add]
    rwa [add_at] at this

set_option maxRecDepth 100000 in
set_option maxHeartbeats 1600000 in
theorem sameTokens_yes (a b : Option Addr) (ca cb : Nat) (tk : List Tok) (w : World) (ha : RowT w a tk) (hb : RowT w b tk) (hl : tk.length ≤ 1000000000000) :
    Calls Try.prog 13 #[.slice a tk.length ca, .slice b tk.length cb] w fun e w' => e = .returned (.bool true) ∧ Below w.heap.size w w' := by
  have HA := hide ha
  have HB := hide hb
  clear ha hb
  go_enter Try.func13, Try.ntmps13
  go_wp2_with fail
  go_loopw [5] (fun x wr => ∃ k q : Nat, k ≤ tk.length ∧ x = .int .i64 k ∧ wr = w.drewN q) (fun x _ => tk.length - (intOf x).toNat)
  case atStart => exact ⟨0, 0, by omega, rfl, rfl⟩
  case round =>
    obtain ⟨k, q, hk, rfl, rfl⟩ := hrel
    by_cases hlt : k < tk.length
    · obtain ⟨⟨kd, tx, pl⟩, ht⟩ : ∃ t, tk[k]? = some t := ⟨tk[k], by simp [hlt]⟩
      obtain ⟨ab, ao, rfl, a0, a1, a2⟩ := HA.out k _ ht
      obtain ⟨bb, bo, rfl, b0, b1, b2⟩ := HB.out k _ ht
      simp only [strV] at a0 a1 a2 b0 b1 b2
      go_wp2_with fail
      go_quiet (fail)
      go_wp2_with fail
      go_roundw
      case rel => exact ⟨k + 1, _, by omega, by go_num, rfl⟩
      case measure => simp [intOf]; omega
    · go_wp2_with fail
      go_ret
      exact ⟨rfl, below_drewN w q⟩

set_option maxRecDepth 100000 in
set_option maxHeartbeats 1600000 in
theorem sameStrings_yes (a b : Option Addr) (ca cb : Nat) (tk : List (List UInt8)) (w : World) (ha : RowS w a tk) (hb : RowS w b tk) (hl : tk.length ≤ 1000000000000) :
    Calls Try.prog 15 #[.slice a tk.length ca, .slice b tk.length cb] w fun e w' => e = .returned (.bool true) ∧ Below w.heap.size w w' := by
  have HA := hide ha
  have HB := hide hb
  clear ha hb
  go_enter Try.func15, Try.ntmps15
  go_wp2_with fail
  go_loopw [5] (fun x wr => ∃ k q : Nat, k ≤ tk.length ∧ x = .int .i64 k ∧ wr = w.drewN q) (fun x _ => tk.length - (intOf x).toNat)
  case atStart => exact ⟨0, 0, by omega, rfl, rfl⟩
  case round =>
    obtain ⟨k, q, hk, rfl, rfl⟩ := hrel
    by_cases hlt : k < tk.length
    · obtain ⟨tx, ht⟩ : ∃ t, tk[k]? = some t := ⟨tk[k], by simp [hlt]⟩
      obtain ⟨ab, ao, rfl, a0⟩ := HA.out k _ ht
      obtain ⟨bb, bo, rfl, b0⟩ := HB.out k _ ht
      simp only [strV] at a0 b0
      go_wp2_with fail
      go_quiet (fail)
      go_wp2_with fail
      go_roundw
      case rel => exact ⟨k + 1, _, by omega, by go_num, rfl⟩
      case measure => simp [intOf]; omega
    · go_wp2_with fail
      go_ret
      exact ⟨rfl, below_drewN w q⟩

set_option maxRecDepth 100000 in
set_option maxHeartbeats 1600000 in
theorem refTokens_any (s : ByteArray) (w : World) :
    Calls Try.prog 10 #[.string s] w fun r w' => ∃ v, r = .returned (.tuple #[v, .int .i64 (lexT s.data.toList).err, .int .i64 (lexT s.data.toList).place]) ∧
      w'.ownsRow w.heap.size 47 3 v (lexT s.data.toList).tk.length (cellsT (lexT s.data.toList).tk) ∧ Below w.heap.size w w' := by
  have CC := hide (walk_any s w _ rfl)
  generalize lexT s.data.toList = Z at *
  go_enter Try.func10, Try.ntmps10
  go_wp2_with fail
  refine CC.out.mono ?_
  rintro _ w1 ⟨tv, rv, rfl, h⟩
  have HH := hide h
  clear h CC
  go_wp2_with fail
  go_ret3
  exact ⟨_, rfl, HH.out.tks, HH.out.bel⟩

set_option maxRecDepth 100000 in
set_option maxHeartbeats 1600000 in
theorem refRemarks_any (s : ByteArray) (w : World) :
    Calls Try.prog 12 #[.string s] w fun r w' => ∃ v, r = .returned (.tuple #[v, .int .i64 (lexT s.data.toList).err, .int .i64 (lexT s.data.toList).place]) ∧
      w'.ownsRow w.heap.size 9 1 v (lexT s.data.toList).rm.length ((lexT s.data.toList).rm.map strV) ∧ Below w.heap.size w w' := by
  have CC := hide (walk_any s w _ rfl)
  generalize lexT s.data.toList = Z at *
  go_enter Try.func12, Try.ntmps12
  go_wp2_with fail
  refine CC.out.mono ?_
  rintro _ w1 ⟨tv, rv, rfl, h⟩
  have HH := hide h
  clear h CC
  go_wp2_with fail
  go_ret3
  exact ⟨_, rfl, HH.out.rms, HH.out.bel⟩

theorem num_any (x : Int) (w : World) : Calls Try.prog 14 #[.int .i64 x] w fun e w' => e = .returned (.int .i64 x) ∧ w' = w := by
  go_enter Try.func14, Try.ntmps14
  go_wp2
  go_ret
  exact ⟨rfl, rfl⟩
end Go.Proofs.Ytlllgndbcagkgaa
