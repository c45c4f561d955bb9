/- NaiveLeast, walked. -/
import Derived.Test.YtbnkdfhjdjgnhaaLst
import Derived.Test.YtbnkdfhjdjgnhaaOwnW
namespace Go.Proofs.Ytbnkdfhjdjgnhaa
open Go.RowKit

set_option maxRecDepth 100000 in
set_option maxHeartbeats 6400000 in
theorem sameM_any {w : World} {a b : Option Addr} {c d : Nat} {l k : List Int} (hl : At1 w a (u8s l)) (hk : At1 w b (u8s k)) (hlim : l.length ≤ 4096) (he : l.length = k.length) :
    Calls Try.prog 12 #[.slice a l.length c, .slice b k.length d] w fun e w' => e = .returned (.bool (decide (l = k))) ∧ ∃ q, w' = w.drewN q := by
  have HL := hide hl
  have HK := hide hk
  obtain ⟨o, ho⟩ : ∃ o, decide (l = k) = o := ⟨_, rfl⟩
  rw [ho]
  have HO := hide ho
  clear hl hk ho
  go_enter Try.func12, Try.ntmps12
  go_wp2_with fail
  go_loopw [5] (fun x wr => ∃ i : Nat, i ≤ l.length ∧ x = .int .i64 i ∧ Hid (∀ j : Nat, j < i → l.getD j 0 = k.getD j 0) ∧ Hid (∃ q, wr = w.drewN q)) (fun x _ => l.length - (intOf x).toNat)
  case atStart => exact ⟨0, by omega, rfl, hide fun j hj => by omega, hide ⟨0, rfl⟩⟩
  case round =>
    obtain ⟨i, hi, rfl, HA, HQ⟩ := hrel
    by_cases hlt : i < l.length
    · have hlt2 : i < k.length := by omega
      obtain ⟨g, gg, rfl, cx⟩ := HL.out i _ (u8s_at hlt)
      obtain ⟨g2, gg2, rfl, cy⟩ := HK.out i _ (u8s_at hlt2)
      have cx2 : wr.cell? ⟨g, gg + i, none⟩ = some (.int .u8 (l.getD i 0)) := by obtain ⟨q, rfl⟩ := HQ.out; exact cx
      have cy2 : wr.cell? ⟨g2, gg2 + i, none⟩ = some (.int .u8 (k.getD i 0)) := by obtain ⟨q, rfl⟩ := HQ.out; exact cy
      clear cx cy
      by_cases hxy : l.getD i 0 = k.getD i 0
      · have HA2 : Hid (∀ j : Nat, j < i + 1 → l.getD j 0 = k.getD j 0) := hide fun j hj => by
          by_cases e : j = i
          · subst e; exact hxy
          · exact HA.out j (by omega)
        generalize l.getD i 0 = x at *
        generalize k.getD i 0 = y at *
        subst hxy
        clear HA
        go_wp2_with fail
        go_quiet (fail)
        have HQ2 : Hid (∃ q, wr.drewN nq = w.drewN q) := hide (by obtain ⟨q, rfl⟩ := HQ.out; exact ⟨q + nq, by unfold World.drewN; simp [Nat.add_assoc]⟩)
        go_wp2_with fail
        go_roundw
        case rel => exact ⟨i + 1, by omega, by go_num, HA2, HQ2⟩
        case measure => simp [intOf]; omega
      · have HE : Hid (o = false) := hide (by rw [← HO.out]; exact decide_eq_false fun e => hxy (by rw [e]))
        have hne : (l.getD i 0 == k.getD i 0) = false := by simpa using hxy
        generalize l.getD i 0 = x at *
        generalize k.getD i 0 = y at *
        clear HA hxy
        go_wp2_with fail
        go_quiet (fail)
        have HQ2 : Hid (∃ q, wr.drewN nq = w.drewN q) := hide (by obtain ⟨q, rfl⟩ := HQ.out; exact ⟨q + nq, by unfold World.drewN; simp [Nat.add_assoc]⟩)
        go_wp2_with fail
        go_ret
        exact ⟨by rw [HE.out]; rfl, HQ2.out⟩
    · have HE : Hid (o = true) := hide (by rw [← HO.out]; exact decide_eq_true (list_eq_drop (fun j hj => HA.out j (by omega)) he))
      go_wp2_with fail
      go_ret
      exact ⟨by rw [HE.out]; rfl, HQ.out⟩
set_option maxRecDepth 100000 in
set_option maxHeartbeats 6400000 in
theorem in_any {w : World} {a b : Option Addr} {c d : Nat} {l k : List Int} (hl : At1 w a (u8s l)) (hk : At1 w b (u8s k)) (hlim : l.length ≤ 4096) (he : l.length = k.length) (hbl : Bys l) (hbk : Bys k) (hin : Inn8 l k) :
    Calls Try.prog 14 #[.slice a l.length c, .slice b k.length d] w fun e w' => e = .returned (.bool true) ∧ Below w.heap.size w w' := by
  have HL := hide hl
  have HK := hide hk
  have HZ : Hid (∀ i : Nat, bits .andNot .u8 (l.getD i 0) (k.getD i 0) = 0) := hide fun i => (andNot_iff (hbl i) (hbk i)).2 (hin i)
  clear hl hk hin
  go_enter Try.func14, Try.ntmps14
  go_wp2_with fail
  go_loopw [5] (fun x wr => ∃ i q : Nat, i ≤ l.length ∧ x = .int .i64 i ∧ wr = w.drewN q) (fun x _ => l.length - (intOf x).toNat)
  case atStart => exact ⟨0, 0, by omega, rfl, rfl⟩
  case round =>
    obtain ⟨i, q, hi, rfl, rfl⟩ := hrel
    by_cases hlt : i < l.length
    · have hlt2 : i < k.length := by omega
      obtain ⟨g, gg, rfl, cx⟩ := HL.out i _ (u8s_at hlt)
      obtain ⟨g2, gg2, rfl, cy⟩ := HK.out i _ (u8s_at hlt2)
      have hz := HZ.out i
      generalize l.getD i 0 = x at *
      generalize k.getD i 0 = y at *
      go_wp2_with fail
      go_quiet (fail)
      go_wp2_with fail
      go_roundw
      case rel => exact ⟨i + 1, _, by omega, by go_num, rfl⟩
      case measure => simp [intOf]; omega
    · go_wp2_with fail
      go_ret
      exact ⟨rfl, below_drewN w q⟩
end Go.Proofs.Ytbnkdfhjdjgnhaa
