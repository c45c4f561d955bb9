import Derived.Test.YthifoamnmhlghaaGreatMem
set_option maxRecDepth 100000
set_option maxHeartbeats 3200000
namespace Go.Proofs.YthifoamnmhlghaaGreat
open Go.RowKit
theorem cn {α : Type} {l : List α} {k : Nat} {x : α} (h : l[k]? = some x) : l.drop k = x :: l.drop (k + 1) := by
 obtain ⟨hk, e⟩ := List.getElem?_eq_some_iff.1 h
 rw [List.drop_eq_getElem_cons hk, e]
theorem bR {α : Type} {l : List α} {k : Nat} (h : l.length ≤ k) : l.drop k = [] := List.drop_eq_nil_of_le h
theorem At1.get {w : World} {a : Option Addr} {l : List Int} (h : At1 w a (av l)) {i : Nat} {x : Int} (hi : l[i]? = some x) : ∃ g o, a = some ⟨g, o, none⟩ ∧ w.cell? ⟨g, o + i, none⟩ = some (.int .i64 x) := by
 refine h i _ ?_
 unfold av
 rw [List.getElem?_map, hi]
 rfl
theorem fd {w : World} {a : Option Addr} {l : List Int} {c : Nat} (h : At1 w a (av l)) (hl : l.length ≤ 140737488351232) (b : Int) :
    Calls Tryz.prog 26 #[.slice a l.length c, .int .i64 b] w fun e w' => e = .returned (.bool (bT l b)) ∧ w' = w := by
 have HA := hide h
 obtain ⟨o, ho⟩ : ∃ o, bT l b = o := ⟨_, rfl⟩
 rw [ho]
 have HO : Hid (bW b (-1) (l.drop 0) = o) := hide (by rw [List.drop_zero]; exact ho)
 clear h ho
 go_enter Tryz.func26, Tryz.ntmps26
 go_wp2_with fail
 go_loop [5, 10] (fun y x => ∃ (k : Nat) (z : Int), k ≤ l.length ∧ x = .int .i64 k ∧ y = .int .i64 z ∧ Hid (bW b z (l.drop k) = o)) (fun _ x => l.length - (intOf x).toNat)
 case atStart => exact ⟨0, -1, by omega, rfl, rfl, HO⟩
 case round =>
  clear HO
  obtain ⟨k, z, hk, rfl, rfl, HK⟩ := hrel
  by_cases hlt : k < l.length
  · obtain ⟨x, hx⟩ := ap hlt
    obtain ⟨g, of, rfl, kc⟩ := HA.out.get hx
    have HD := hide (cn hx)
    clear hx
    by_cases h1 : x ≤ z
    · have HR : Hid (false = o) := by
       have := HK.out
       rw [HD.out, bW, if_pos (.inl h1)] at this
       exact this
      clear HK HD
      go_wp2_with fail
      go_ret
      exact ⟨bE HR.out, rfl⟩
    · by_cases h2 : b ≤ x
      · have HR : Hid (false = o) := by
         have := HK.out
         rw [HD.out, bW, if_pos (.inr h2)] at this
         exact this
        clear HK HD
        go_wp2_with fail
        go_ret
        exact ⟨bE HR.out, rfl⟩
      · have HR : Hid (bW b x (l.drop (k + 1)) = o) := by
         have := HK.out
         rw [HD.out, bW, if_neg (by omega)] at this
         exact this
        clear HK HD
        go_wp2_with fail
        go_round
        case rel => exact ⟨k + 1, x, by omega, by go_num, rfl, HR⟩
        case measure => simp [intOf]; omega
  · have HR : Hid (true = o) := by
     have := HK.out
     rw [bR (by omega)] at this
     exact this
    go_wp2_with fail
    go_ret
    exact ⟨bE HR.out, rfl⟩
theorem pV {w : World} {a : Option Addr} {l : List Int} {c : Nat} (h : At1 w a (av l)) (hl : l.length ≤ 140737488351232) (s : Int) :
    Calls Tryz.prog 71 #[.slice a l.length c, .int .i64 s] w fun e w' => ∃ i : Int, e = .returned (.int .i64 i) ∧ (0 ≤ i ↔ s ∈ l) ∧ w' = w := by
 have HA := hide h
 clear h
 go_enter Tryz.func71, Tryz.ntmps71
 go_wp2_with fail
 go_loop [8] (fun x => ∃ k : Nat, k ≤ l.length ∧ x = .int .i64 k ∧ Hid (s ∉ l.take k)) (fun x => l.length - (intOf x).toNat)
 case atStart => exact ⟨0, by omega, rfl, hide (by simp)⟩
 case round =>
  obtain ⟨k, hk, rfl, HK⟩ := hrel
  by_cases hlt : k < l.length
  · obtain ⟨g, o, rfl, kc⟩ := HA.out.int hlt
    by_cases he : l.getD k 0 = s
    · have HP := hide (rJ hlt he)
      rw [he] at kc
      clear he HK
      go_wp2_with fail
      go_ret
      exact ⟨_, rfl, ⟨fun _ => HP.out, fun _ => by omega⟩, rfl⟩
    · have HP := hide (pL hlt HK.out he)
      generalize l.getD k 0 = x at kc he
      have hbb : (s == x) = false := beq_eq_false_iff_ne.2 (fun e => he e.symm)
      clear he HK
      go_wp2_with fail
      go_round
      case rel => exact ⟨k + 1, by omega, by go_num, HP⟩
      case measure => simp [intOf]; omega
  · have HP : Hid (s ∉ l) := by
     have := HK.out
     rw [List.take_of_length_le (by omega)] at this
     exact this
    go_wp2_with fail
    go_ret
    exact ⟨_, rfl, ⟨fun h => absurd h (by omega), fun h => absurd h HP.out⟩, rfl⟩
theorem fH {w : World} {a : Option Addr} {l : List Int} {c : Nat} (h : At1 w a (av l)) (hl : l.length ≤ 140737488351232) (s : Int) :
    Calls Tryz.prog 45 #[.slice a l.length c, .int .i64 s] w fun e w' => e = .returned (.bool (decide (s ∈ l))) ∧ w' = w := by
 have C := hide (pV (c := c) h hl s)
 clear h
 go_enter Tryz.func45, Tryz.ntmps45
 go_wp2_with fail
 refine C.out.mono ?_
 rintro _ w1 ⟨i, rfl, hi, hw⟩
 subst w1
 have HI := hide hi
 clear hi C
 go_wp2_with fail
 go_ret
 exact ⟨bE (decide_eq_decide.2 HI.out), rfl⟩
theorem pd (z b : Int) (w : World) : Calls Tryz.prog 72 #[.int .i64 z, .int .i64 b] w fun e w' => e = .returned (.bool (mB z b)) ∧ w' = w := by
 by_cases h : 0 ≤ z
 · have HR : Hid (mB z b = decide (z < b)) := hide (by unfold mB; rw [decide_eq_true h, Bool.true_and])
   go_enter Tryz.func72, Tryz.ntmps72
   go_wp2_with fail
   go_ret
   exact ⟨bE HR.out.symm, rfl⟩
 · have HR : Hid (mB z b = false) := hide (by unfold mB; rw [decide_eq_false h, Bool.false_and])
   go_enter Tryz.func72, Tryz.ntmps72
   go_wp2_with fail
   go_ret
   exact ⟨bE HR.out.symm, rfl⟩
theorem qF (z : Int) (w : World) : Calls Tryz.prog 113 #[.int .i64 z] w fun e w' => e = .returned (.bool false) ∧ w' = w := by
 go_enter Tryz.func113, Tryz.ntmps113
 go_wp2_with fail
 go_ret
 exact ⟨bE (by simp), rfl⟩
theorem rN (z : Int) (w : World) : Calls Tryz.prog 104 #[.int .i64 z] w fun e w' => e = .returned (.bool false) ∧ w' = w := by
 go_enter Tryz.func104, Tryz.ntmps104
 go_wp2_with fail
 go_ret
 exact ⟨bE (by simp), rfl⟩
theorem mW (x y : Int) (w : World) : Calls Tryz.prog 103 #[.int .i64 x, .int .i64 y] w fun e w' => e = .returned (.bool (decide (x < y))) ∧ w' = w := by
 have C := hide (qF x w)
 go_enter Tryz.func103, Tryz.ntmps103
 go_wp2_with fail
 refine C.out.mono ?_
 rintro _ w1 ⟨rfl, hw⟩
 subst w1
 go_wp2_with fail
 go_ret
 exact ⟨rfl, rfl⟩
end Go.Proofs.YthifoamnmhlghaaGreat
