/- Tokens copied; whether two rows that were handed over are one. -/
import Derived.Test.YtlllgndbcagkgaaJoinPlain
import Derived.OwnWalk
namespace Go.Proofs.Ytlllgndbcagkgaa
open Go.RowKit

def cellsA (l : List ATok) : List Value := l.flatMap fun t => [.int .i64 t.kd, .string t.tx, .int .i64 t.pl]

theorem cellsA_snoc (l : List ATok) (t : ATok) : cellsA (l ++ [t]) = cellsA l ++ [.int .i64 t.kd, .string t.tx, .int .i64 t.pl] := by simp [cellsA]

theorem cellsA_at (tk : List ATok) : ∀ (j : Nat) (t : ATok), tk[j]? = some t → (cellsA tk)[j * 3]? = some (.int .i64 t.kd) ∧ (cellsA tk)[j * 3 + 1]? = some (.string t.tx) ∧ (cellsA tk)[j * 3 + 2]? = some (.int .i64 t.pl) := by
  induction tk with
  | nil => intro j t h; simp at h
  | cons a l ih =>
    intro j t h
    have e : cellsA (a :: l) = .int .i64 a.kd :: .string a.tx :: .int .i64 a.pl :: cellsA l := by simp [cellsA]
    rw [e]
    cases j with
    | zero => simp at h; subst h; simp
    | succ j =>
      have := ih j t (by simpa using h)
      have e1 : (j + 1) * 3 = j * 3 + 3 := by omega
      rw [e1]
      simpa using this

theorem own_rowA {w : World} {B : Nat} {v : Value} {tk : List ATok} (h : w.ownsRow B 47 3 v tk.length (cellsA tk)) : ∃ a c, v = .slice a tk.length c ∧ RowA w a tk := by
  rcases h.2 with ⟨h1, h2⟩ | ⟨g, cap, cur, rfl, h2, h3, h4⟩
  · refine ⟨none, 0, by rw [h1, h2], fun j t hj => ?_⟩
    have : tk = [] := List.eq_nil_of_length_eq_zero h2
    subst this; simp at hj
  · refine ⟨some ⟨g, 0, none⟩, cap, rfl, fun j t hj => ?_⟩
    have := cellsA_at tk j t hj
    have hc : ∀ j u, (cellsA tk)[j]? = some u → w.cell? ⟨g, j, none⟩ = some u := fun j u hu => by have := h.cells (g := g) rfl j u hu; rwa [add_at] at this
    refine ⟨g, 0, rfl, ?_⟩
    rw [Nat.zero_add]
    exact ⟨hc _ _ this.1, hc _ _ this.2.1, hc _ _ this.2.2⟩

set_option maxRecDepth 100000 in
set_option maxHeartbeats 3200000 in
theorem copyTokens_any (a : Option Addr) (c : Nat) (A : List ATok) (w : World) (B : Nat) (hB : w.heap.size = B) (hr : RowA w a A) (hl : A.length ≤ 4398046510976) :
    Calls Try.prog 17 #[.slice a A.length c] w fun r w' => ∃ v, r = .returned v ∧ w'.ownsRow B 47 3 v A.length (cellsA A) ∧ Below B w w' := by
  obtain ⟨iT, hiT, zT0, zT1, zT2⟩ := info_parts infoTok
  have HR := hide hr
  have HB := hide hB
  clear hr hB
  go_enter Try.func17, Try.ntmps17
  go_wp2_with fail
  go_loopw [3, 4] (fun v z wr => ∃ k : Nat, k ≤ A.length ∧ z = .int .i64 k ∧ Hid (wr.ownsRow B 47 3 v k (cellsA (A.take k))) ∧ Hid (Below B w wr)) (fun _ z _ => A.length - (intOf z).toNat)
  case atStart => exact ⟨0, Nat.zero_le _, rfl, ⟨rfl, .inl ⟨rfl, rfl⟩⟩, Below.refl _ _⟩
  case round =>
    obtain ⟨k, hk, rfl, HO, HW⟩ := hrel
    by_cases hlt : k < A.length
    · obtain ⟨t, e⟩ : ∃ t, A[k]? = some t := ⟨A[k], by simp [hlt]⟩
      obtain ⟨b, o, rfl, a0, a1, a2⟩ := (HR.out.below (by rw [HB.out]; exact Nat.le_refl _) HW.out) k t e
      have HTk : Hid (A.take (k + 1) = A.take k ++ [t]) := by
        unfold Hid
        rw [List.take_succ_eq_append_getElem hlt, (List.getElem?_eq_some_iff.1 e).2]
      have hsz : B ≤ wr.heap.size := by have := HW.out.size; have := HB.out; omega
      obtain ⟨kd, tx, pl⟩ := t
      simp only at a0 a1 a2
      go_wp2_with (at_builtin; go_must (refine wpList_append_lies _ rfl _ _ 22 rfl B 47 iT _ 3 32 Try.underlying22 hiT zT0 zT1 zT2 rfl (by omega) _ k (cellsA (A.take k)) rfl (HO.out.alloc _) ⟨wr.heap.size, 0, none⟩ 1 1 [.int .i64 kd, .string tx, .int .i64 pl] rfl rfl (World.news_of_block (cs := #[.int .i64 kd, .string tx, .int .i64 pl]) (t := 47) (fr := (0, 0)) (heap_alloc_new wr _)) (by simp [Value.oneCell']) (by omega) (by unfold maxLen; omega) (by omega) (by simp; omega) (wr.heap.size + 1) (by simp) ?_))
      intro g cap w2 hown hgrow hat hlt1
      have HW2 : Hid (Below B w w2) := grown_below hsz ((grown_alloc wr _ _).trans hgrow) (fun q hq => (HO.out.lt q hq).1) HW.out
      have HO2 : Hid (w2.ownsRow B 47 3 (.slice (some ⟨g, 0, none⟩) (k + 1) cap) (k + 1) (cellsA (A.take (k + 1)))) := by
        unfold Hid
        rw [HTk.out, cellsA_snoc]
        exact hown
      clear hown hgrow hat hlt1
      go_wp2_with fail
      go_roundw
      case rel => exact ⟨k + 1, by omega, by go_num, HO2, HW2⟩
      case measure => simp [intOf]; omega
    · have ek : k = A.length := by omega
      subst ek
      have HO2 := HO
      rw [List.take_length] at HO2
      clear HO
      go_wp2_with fail
      go_ret
      exact ⟨_, rfl, HO2.out, HW.out⟩

set_option maxRecDepth 100000 in
set_option maxHeartbeats 1600000 in
theorem sameTokensA_yes (a b : Option Addr) (ca cb : Nat) (tk : List ATok) (w : World) (ha : RowA w a tk) (hb : RowA w b tk) (hl : tk.length ≤ 4398046511104) :
    Calls Try.prog 13 #[.slice a tk.length ca, .slice b tk.length cb] w fun e w' => e = .returned (.bool true) ∧ Below w.heap.size w w' := by
  have HA := hide ha
  have HB := hide hb
  clear ha hb
  go_enter Try.func13, Try.ntmps13
  go_wp2_with fail
  go_loopw [5] (fun x wr => ∃ k q : Nat, k ≤ tk.length ∧ x = .int .i64 k ∧ wr = w.drewN q) (fun x _ => tk.length - (intOf x).toNat)
  case atStart => exact ⟨0, 0, by omega, rfl, rfl⟩
  case round =>
    obtain ⟨k, q, hk, rfl, rfl⟩ := hrel
    by_cases hlt : k < tk.length
    · obtain ⟨⟨kd, tx, pl⟩, ht⟩ : ∃ t, tk[k]? = some t := ⟨tk[k], by simp [hlt]⟩
      obtain ⟨ab, ao, rfl, a0, a1, a2⟩ := HA.out k _ ht
      obtain ⟨bb, bo, rfl, b0, b1, b2⟩ := HB.out k _ ht
      simp only at a0 a1 a2 b0 b1 b2
      go_wp2_with fail
      go_quiet (fail)
      go_wp2_with fail
      go_roundw
      case rel => exact ⟨k + 1, _, by omega, by go_num, rfl⟩
      case measure => simp [intOf]; omega
    · go_wp2_with fail
      go_ret
      exact ⟨rfl, below_drewN w q⟩
end Go.Proofs.Ytlllgndbcagkgaa
