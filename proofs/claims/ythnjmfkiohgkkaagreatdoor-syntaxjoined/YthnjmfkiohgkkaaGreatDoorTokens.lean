/- Tokens and Remarks. -/
import Derived.Test.YthnjmfkiohgkkaaGreatDoorScan
namespace Go.Proofs.YthnjmfkiohgkkaaGreatDoor
open Go.RowKit

/-- What Tokens and Remarks answer. -/
def lexT (s : List UInt8) : Res := if 65536 < s.length then ⟨[], [], 5, 0⟩ else lexR s

theorem own_base {w : World} {B B' e k n : Nat} {v : Value} {xs : List Value} (h : w.ownsRow B e k v n xs) (hb : B' ≤ B) : w.ownsRow B' e k v n xs := by
  refine ⟨h.1, ?_⟩
  rcases h.2 with h1 | ⟨g, cap, cur, h1, h2, h3⟩
  · exact .inl h1
  · exact .inr ⟨g, cap, cur, h1, Nat.le_trans hb h2, h3⟩

theorem lexT_err {s : List UInt8} (h : (lexT s).err ≠ 0) : (lexT s).tk = [] ∧ (lexT s).rm = [] := by
  unfold lexT at h ⊢
  split
  · exact ⟨rfl, rfl⟩
  · next hl =>
    rw [if_neg hl] at h
    rcases lexR_cases s with ⟨_, h2, h3, _⟩ | ⟨h1, _⟩
    · exact ⟨h2, h3⟩
    · exact absurd h1 h

theorem lexT_place {s : List UInt8} (h : (lexT s).err = 0) : (lexT s).place = s.length ∧ s.length ≤ 65536 ∧ lexT s = lexR s := by
  unfold lexT at h ⊢
  split
  · next hl => rw [if_pos hl] at h; simp at h
  · next hl =>
    rw [if_neg hl] at h
    rcases lexR_cases s with ⟨h1, _⟩ | ⟨_, h2, _⟩
    · exact absurd h h1
    · exact ⟨h2, by omega, rfl⟩

set_option maxRecDepth 100000 in
set_option maxHeartbeats 1600000 in
theorem tokens_any (s : ByteArray) (w : World) :
    Calls Tryz.prog 19 #[.string s] w fun r w' => ∃ v, r = .returned (.tuple #[v, .int .i64 (lexT s.data.toList).err, .int .i64 (lexT s.data.toList).place]) ∧
      w'.ownsRow w.heap.size 50 3 v (lexT s.data.toList).tk.length (cellsT (lexT s.data.toList).tk) ∧ Below w.heap.size w w' := by
  have hsl : s.data.toList.length = s.size := by simp
  by_cases hs : 65536 < s.size
  · have HL : Hid (lexT s.data.toList = ⟨[], [], 5, 0⟩) := by unfold Hid lexT; rw [if_pos (by omega)]
    have CC := hide (scan_long s w hs)
    clear hs hsl
    go_enter Tryz.func19, Tryz.ntmps19
    go_wp2_with fail
    refine CC.out.mono ?_
    rintro _ w1 ⟨rfl, hb, c5, c6⟩
    have HB := hide hb
    clear hb CC
    go_wp2_with fail
    go_quiet (fail)
    go_wp2_with fail
    go_ret3
    rw [HL.out]
    exact ⟨_, rfl, ⟨rfl, .inl ⟨rfl, rfl⟩⟩, HB.out.trans ((below_drewN w1 nq).mono HB.out.size)⟩
  · have HL : Hid (lexT s.data.toList = lexR s.data.toList) := by unfold Hid lexT; rw [if_neg (by omega)]
    have CC := hide (scan_ok s w (by omega))
    rw [HL.out]
    clear hs
    go_enter Tryz.func19, Tryz.ntmps19
    go_wp2_with fail
    refine CC.out.mono ?_
    rintro _ w1 ⟨rfl, hb, S, T, hS, hE⟩
    have HB := hide hb
    have c5 := hS.errc
    have c6 := hS.placec
    obtain ⟨_, tv, rv, hblk, ht, hr⟩ := hS
    have cv : w1.cell? ⟨w.heap.size, 3, none⟩ = some tv := by rw [cell_of_row w1 w.heap.size 3 _ 116 _ hblk]; rfl
    have HT := hide (own_base ht (Nat.le_add_right w.heap.size 2))
    clear hb CC hblk ht hr
    rcases hE with ⟨h1, h2, h3, h4⟩ | ⟨h1, h2, h3⟩
    · rw [h2] at c5
      have HP := hide ((lexT_place (s := s.data.toList) (by rw [HL.out]; exact h1)).1)
      rw [HL.out] at HP
      rw [h3] at HT
      have H1 := hide h1
      clear h1 h2 h3 h4
      go_wp2_with fail
      go_ret3
      rw [H1.out, HP.out, hsl]
      exact ⟨_, rfl, HT.out, HB.out⟩
    · rw [h2] at c5
      rw [h3] at c6
      have hne : ((lexR s.data.toList).err : Int) ≠ 0 := by omega
      have HE := hide (lexT_err (s := s.data.toList) (by rw [HL.out]; exact h1))
      rw [HL.out] at HE
      clear h1 h2 h3 HL
      go_wp2_with fail
      go_quiet (fail)
      go_wp2_with fail
      go_ret3
      rw [HE.out.1]
      exact ⟨_, rfl, ⟨rfl, .inl ⟨rfl, rfl⟩⟩, HB.out.trans ((below_drewN w1 nq).mono HB.out.size)⟩

end Go.Proofs.YthnjmfkiohgkkaaGreatDoor
