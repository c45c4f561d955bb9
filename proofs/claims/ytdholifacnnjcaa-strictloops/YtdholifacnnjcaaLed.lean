/- leads, walked. -/
import Derived.Test.YtdholifacnnjcaaOks
namespace Go.Proofs.Ytdholifacnnjcaa
open Go.RowKit

set_option maxRecDepth 100000 in
set_option maxHeartbeats 6400000 in
theorem leads_any {w : World} {T : Th} {fa ra ba : Option Addr} {fc rc bc : Nat} {a b : Int} (h : TA w.heap.size w T fa fc ra rc ba bc) (hbl : ∀ r ∈ T.rules, r.body.length ≤ 16) (hrl : T.rules.length ≤ 4096) (hd : ∃ R ∈ T.rules, R.kind = 1 ∧ R.head = a ∧ b ∈ R.body) :
    Calls Try.prog 14 #[tv T fa fc ra rc ba bc, .int .i64 a, .int .i64 b] w fun e w' => e = .returned (.bool true) ∧ Below w.heap.size w w' := by
  have HL := hide h
  have HD := hide hd
  have HBL := hide hbl
  have hB := below_new w (.cells #[.int .i64 T.lits, .slice fa T.foes.length fc, .slice ra T.rules.length rc, .slice ba T.beats.length bc] 25)
  have hX := heap_alloc_new w (.cells #[.int .i64 T.lits, .slice fa T.foes.length fc, .slice ra T.rules.length rc, .slice ba T.beats.length bc] 25)
  have HB := hide hB
  clear h hd hbl
  go_enter Try.func14, Try.ntmps14
  go_upto_region 1 with fail
  have HX : Hid (∀ X, Below (w.alloc (.cells #[.int .i64 T.lits, .slice fa T.foes.length fc, .slice ra T.rules.length rc, .slice ba T.beats.length bc] 25)).heap.size (w.alloc (.cells #[.int .i64 T.lits, .slice fa T.foes.length fc, .slice ra T.rules.length rc, .slice ba T.beats.length bc] 25)) X → X.cell? ⟨w.heap.size, 2, none⟩ = some (.slice ra T.rules.length rc)) := hide fun X hb => (Bt.of ((hb.block _ (loc_lt hX)).trans hX)).c2
  have HLW := hide (TR.go hB HL.out)
  generalize w.alloc (.cells #[.int .i64 T.lits, .slice fa T.foes.length fc, .slice ra T.rules.length rc, .slice ba T.beats.length bc] 25) = W at *
  clear hX hB HL
  go_upto_region 2 with fail
  go_loopw [7] (fun x wr => ∃ i : Nat, i ≤ T.rules.length ∧ x = .int .i64 i ∧ Hid (∀ (k : Nat) (R : RuleM), k < i → T.rules[k]? = some R → R.kind = 1 → R.head = a → b ∉ R.body) ∧ Hid (Below W.heap.size W wr)) (fun x _ => T.rules.length - (intOf x).toNat)
  case atStart => exact ⟨0, by omega, rfl, hide fun k R hk => by omega, hide (Below.refl _ _)⟩
  case round =>
    obtain ⟨i, hi, rfl, HNO, HBr⟩ := hrel
    have ct := HX.out _ HBr.out
    by_cases hil : i < T.rules.length
    · obtain ⟨r, hr⟩ := get_at hil
      have HIL := hide hil
      have HRr := hide hr
      have hb16 := HBL.out r (List.mem_of_getElem? hr)
      have HRU := hide (Rules.keep HBr.out.block HLW.out.rules)
      clear hr
      go_upto_region 5 with fail
      go_loopw [8] (fun x wz => ∃ j : Nat, j ≤ r.body.length ∧ x = .int .i64 j ∧ Hid (r.kind = 1 → r.head = a → b ∉ r.body.take j) ∧ Hid (Below W.heap.size W wz)) (fun x _ => r.body.length - (intOf x).toNat)
      case atStart => exact ⟨0, by omega, rfl, hide fun _ _ => by simp, HBr⟩
      case round =>
        clear ct HRU HBr
        obtain ⟨j, hj, rfl, HNJ, HBr⟩ := hrel
        have ct := HX.out _ HBr.out
        obtain ⟨gr, go, bd, bp, rfl, hgr, x0, x1, x2, -, hbl2, hbody⟩ := at_R (Rules.keep HBr.out.block HLW.out.rules) HRr.out
        by_cases hjl : j < r.body.length
        · obtain ⟨x, hx⟩ := get_at hjl
          obtain ⟨gx, ox, rfl, hgx, cx⟩ := at_I hbody hx
          have HJL := hide hjl
          by_cases hk : r.kind = 1
          · have e1 : (r.kind == 1) = true := by simpa using hk
            by_cases hh : r.head = a
            · have e2 : (r.head == a) = true := by simpa using hh
              by_cases hxb : x = b
              · have e3 : (x == b) = true := by simpa using hxb
                clear hk hh hxb hx
                go_wp2_with fail
                go_ret
                exact ⟨rfl, HB.out.trans (HBr.out.mono HB.out.size)⟩
              · have e3 : (x == b) = false := by simpa using hxb
                have HNJ2 : Hid (r.kind = 1 → r.head = a → b ∉ r.body.take (j + 1)) := hide (by
                  intro h1 h2
                  rw [take_snoc hx]
                  simp only [List.mem_append, List.mem_singleton, not_or]
                  exact ⟨HNJ.out h1 h2, fun h => hxb h.symm⟩)
                clear hk hh hxb hx
                go_wp2_with fail
                go_roundw
                case rel => exact ⟨j + 1, by have := HJL.out; omega, by go_num, HNJ2, HBr⟩
                case measure => have := HJL.out; simp [intOf]; omega
            · have e2 : (r.head == a) = false := by simpa using hh
              have HNJ2 : Hid (r.kind = 1 → r.head = a → b ∉ r.body.take (j + 1)) := hide fun _ h => absurd h hh
              clear hk hh hx
              go_wp2_with fail
              go_roundw
              case rel => exact ⟨j + 1, by have := HJL.out; omega, by go_num, HNJ2, HBr⟩
              case measure => have := HJL.out; simp [intOf]; omega
          · have e1 : (r.kind == 1) = false := by simpa using hk
            have HNJ2 : Hid (r.kind = 1 → r.head = a → b ∉ r.body.take (j + 1)) := hide fun h => absurd h hk
            clear hk hx
            go_wp2_with fail
            go_roundw
            case rel => exact ⟨j + 1, by have := HJL.out; omega, by go_num, HNJ2, HBr⟩
            case measure => have := HJL.out; simp [intOf]; omega
        · have hjb : r.body.take j = r.body := List.take_of_length_le (by omega)
          have HNO2 : Hid (∀ (k : Nat) (R : RuleM), k < i + 1 → T.rules[k]? = some R → R.kind = 1 → R.head = a → b ∉ R.body) := hide (by
            intro k R hk hR h1 h2
            by_cases e : k = i
            · subst e
              have := HRr.out
              rw [hR] at this
              cases this
              have := HNJ.out h1 h2
              rw [hjb] at this
              exact this
            · exact HNO.out k R (by omega) hR h1 h2)
          clear hjb
          go_wp2_with fail
          go_roundw
          case rel => exact ⟨i + 1, by have := HIL.out; omega, by go_num, HNO2, HBr⟩
          case measure => have := HIL.out; simp [intOf]; omega
    · exfalso
      obtain ⟨R, hR, h1, h2, h3⟩ := HD.out
      obtain ⟨k, hk, e⟩ := List.mem_iff_getElem.1 hR
      exact HNO.out k R (by omega) (by rw [List.getElem?_eq_getElem hk, e]) h1 h2 h3
end Go.Proofs.Ytdholifacnnjcaa
