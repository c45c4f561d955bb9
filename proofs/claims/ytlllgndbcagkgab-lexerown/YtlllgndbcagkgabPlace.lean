/- Places. -/
import Derived.Test.YtlllgndbcagkgabRows4
import Derived.Laws.IdiomStrings
namespace Go.Proofs.Ytlllgndbcagkgab
open Go.RowKit

/-- One byte on. -/
def plStep (p : Int × Int) (b : UInt8) : Int × Int := if b.toNat = 10 then (p.1 + 1, 1) else if b.toNat / 64 = 2 then p else (p.1, p.2 + 1)

/-- Line and column behind bytes. -/
def placeF (l : List UInt8) : Int × Int := l.foldl plStep (1, 1)

theorem placeF_snoc (l : List UInt8) (b : UInt8) : placeF (l ++ [b]) = plStep (placeF l) b := by simp [placeF]

theorem foldl_bd : ∀ (l : List UInt8) (p : Int × Int) (n : Int), 1 ≤ p.1 → p.1 ≤ n → 1 ≤ p.2 → p.2 ≤ n → 1 ≤ (l.foldl plStep p).1 ∧ (l.foldl plStep p).1 ≤ n + l.length ∧ 1 ≤ (l.foldl plStep p).2 ∧ (l.foldl plStep p).2 ≤ n + l.length := by
  intro l
  induction l with
  | nil => intro p n h1 h2 h3 h4; simp only [List.foldl_nil, List.length_nil]; omega
  | cons b l ih =>
    intro p n h1 h2 h3 h4
    simp only [List.foldl_cons, List.length_cons]
    have hq : 1 ≤ (plStep p b).1 ∧ (plStep p b).1 ≤ n + 1 ∧ 1 ≤ (plStep p b).2 ∧ (plStep p b).2 ≤ n + 1 := by
      unfold plStep
      split
      · simp only; omega
      · split
        · omega
        · simp only; omega
    have := ih (plStep p b) (n + 1) hq.1 hq.2.1 hq.2.2.1 hq.2.2.2
    omega

theorem placeF_bd (l : List UInt8) : 1 ≤ (placeF l).1 ∧ (placeF l).1 ≤ l.length + 1 ∧ 1 ≤ (placeF l).2 ∧ (placeF l).2 ≤ l.length + 1 := by
  have := foldl_bd l (1, 1) 1 (by simp) (by simp) (by simp) (by simp)
  unfold placeF
  omega

theorem take_snoc (s : ByteArray) (k : Nat) (h : k < s.size) : s.data.toList.take (k + 1) = s.data.toList.take k ++ [s[k]] := by
  rw [List.take_succ_eq_append_getElem (by simpa using h)]; rfl

theorem place_out (s : ByteArray) (i : Int) (w : World) (hi : i < 0 ∨ (s.size : Int) < i) :
    Calls Try.prog 10 #[.string s, .int .i64 i] w fun r w' => r = .returned (.tuple #[.int .i64 0, .int .i64 0, .int .i64 1]) ∧ w' = w := by
  rcases hi with h | h
  · go_enter Try.func10, Try.ntmps10
    go_wp2_with fail
    go_ret3
    exact ⟨rfl, rfl⟩
  · go_enter Try.func10, Try.ntmps10
    go_wp2_with fail
    all_goals go_ret3
    all_goals exact ⟨rfl, rfl⟩

set_option maxRecDepth 100000 in
theorem band_top : ∀ n : Nat, n < 256 → (bits BinOp.and IntKind.u8 (n : Int) 192 != 128) = !(decide (n / 64 = 2)) := by decide

set_option maxRecDepth 100000 in
set_option maxHeartbeats 1600000 in
theorem place_in (s : ByteArray) (i : Nat) (w : World) (hs : s.size ≤ 1000000000000000) (hi : i ≤ s.size) :
    Calls Try.prog 10 #[.string s, .int .i64 i] w fun r w' => r = .returned (.tuple #[.int .i64 (placeF (s.data.toList.take i)).1, .int .i64 (placeF (s.data.toList.take i)).2, .int .i64 0]) ∧ Below w.heap.size w w' := by
  have hcv : ∀ x : ByteArray, (convert 9 71 (.string x)).run Try.prog w = _ := fun x => run_bytes_of_string w 9 71 5 x Try.underlying9 Try.underlying71 Try.underlying5
  have HC : Hid (∀ k (h : k < s.size), k < i → (w.alloc (Obj.cells (bytesRow (s.extract 0 i) (grownCap w i 0 5)) 5 ((bytesRow (s.extract 0 i) (grownCap w i 0 5)).size, (bytesRow (s.extract 0 i) (grownCap w i 0 5)).size + 1))).drew.cell? ⟨w.heap.size, k, none⟩ = some (.int .u8 (s[k].toNat : Int))) := fun k h hk => by
    have e := cell_of_row (w.alloc (Obj.cells (bytesRow (s.extract 0 i) (grownCap w i 0 5)) 5 ((bytesRow (s.extract 0 i) (grownCap w i 0 5)).size, (bytesRow (s.extract 0 i) (grownCap w i 0 5)).size + 1))).drew w.heap.size k _ 5 _ (heap_alloc_new w _)
    rw [e, bytesRow_at (s.extract 0 i) _ k (by show k < (s.extract 0 i).size; rw [ByteArray.size_extract]; omega)]
    have e2 : (s.extract 0 i).data[k]'(by show k < (s.extract 0 i).size; rw [ByteArray.size_extract]; omega) = s[k] := by
      simp only [ByteArray.data_extract, Array.getElem_extract, Nat.zero_add]; rfl
    rw [e2]
  have HB : Hid (Below w.heap.size w (w.alloc (Obj.cells (bytesRow (s.extract 0 i) (grownCap w i 0 5)) 5 ((bytesRow (s.extract 0 i) (grownCap w i 0 5)).size, (bytesRow (s.extract 0 i) (grownCap w i 0 5)).size + 1))).drew) := ((Below.refl _ _).alloc (Nat.le_refl _) _).drew
  go_enter Try.func10, Try.ntmps10
  go_wp2_with fail
  generalize (w.alloc (Obj.cells (bytesRow (s.extract 0 i) (grownCap w i 0 5)) 5 ((bytesRow (s.extract 0 i) (grownCap w i 0 5)).size, (bytesRow (s.extract 0 i) (grownCap w i 0 5)).size + 1))).drew = W1 at *
  clear hcv
  go_loop [7, 8, 24] (fun x y z => ∃ k : Nat, k ≤ i ∧ z = .int .i64 k ∧ x = .int .i64 (placeF (s.data.toList.take k)).1 ∧ y = .int .i64 (placeF (s.data.toList.take k)).2) (fun _ _ z => i - (intOf z).toNat)
  case atStart => exact ⟨0, by omega, rfl, rfl, rfl⟩
  case round =>
    obtain ⟨k, hk, rfl, rfl, rfl⟩ := hrel
    by_cases hlt : k < i
    · have hks : k < s.size := by omega
      have cK := HC.out k hks hlt
      have hbd := placeF_bd (s.data.toList.take k)
      have hlen : (s.data.toList.take k).length = k := by simp; omega
      rw [hlen] at hbd
      have HS : Hid (placeF (s.data.toList.take (k + 1)) = plStep (placeF (s.data.toList.take k)) s[k]) := by unfold Hid; rw [take_snoc s k hks, placeF_snoc]
      have hb255 : s[k].toNat < 256 := s[k].toNat_lt
      obtain ⟨⟨ln, cl⟩, hp⟩ : ∃ q, placeF (s.data.toList.take k) = q := ⟨_, rfl⟩
      rw [hp] at hbd HS ⊢
      simp only at hbd
      clear hp
      by_cases h10 : (s[k].toNat : Int) = 10
      · have HE : Hid (placeF (s.data.toList.take (k + 1)) = (ln + 1, 1)) := by unfold Hid; rw [HS.out]; unfold plStep; rw [if_pos (by omega)]
        rw [h10] at cK
        clear HS
        go_wp2_with fail
        go_round
        case rel => exact ⟨k + 1, by omega, by go_num, by rw [HE.out], by rw [HE.out]⟩
        case measure => simp [intOf]; omega
      · have HTop := hide (band_top s[k].toNat hb255)
        by_cases h64 : s[k].toNat / 64 = 2
        · have HE : Hid (placeF (s.data.toList.take (k + 1)) = (ln, cl)) := by unfold Hid; rw [HS.out]; unfold plStep; rw [if_neg (by omega), if_pos h64]
          have n64 : (bits BinOp.and IntKind.u8 (s[k].toNat : Int) 192 != 128) = false := by rw [HTop.out, decide_eq_true h64]; rfl
          clear HS h64 HTop
          go_wp2_with fail
          go_round
          case rel => exact ⟨k + 1, by omega, by go_num, by rw [HE.out], by rw [HE.out]⟩
          case measure => simp [intOf]; omega
        · have HE : Hid (placeF (s.data.toList.take (k + 1)) = (ln, cl + 1)) := by unfold Hid; rw [HS.out]; unfold plStep; rw [if_neg (by omega), if_neg h64]
          have n64 : (bits BinOp.and IntKind.u8 (s[k].toNat : Int) 192 != 128) = true := by rw [HTop.out, decide_eq_false h64]; rfl
          clear HS h64 HTop
          go_wp2_with fail
          go_round
          case rel => exact ⟨k + 1, by omega, by go_num, by rw [HE.out], by rw [HE.out]⟩
          case measure => simp [intOf]; omega
    · have e : k = i := by omega
      subst e
      go_wp2_with fail
      go_ret3
      exact ⟨rfl, HB.out⟩
end Go.Proofs.Ytlllgndbcagkgab
