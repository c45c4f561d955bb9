/- The document's Sum and Hex: of any bytes they answer what crc and hexB say, and leave what was there as it was. -/
import Derived.Test.YtkiigmfdfkflpaaSum
import Derived.Test.YtkiigmfdfkflpaaHex
namespace Go.Proofs.Ytkiigmfdfkflpaa
open Go.RowKit

set_option maxHeartbeats 400000 in
theorem refSum_any (a : Option Addr) (len cap : Nat) (zs : List Int) (w : World) (hl : zs.length = len) (hlen : len ≤ 140737488355328) (h : Row w a zs) :
    Calls Try.prog 24 #[.slice a len cap] w fun e w' => e = .returned (.int .u32 (crc zs)) ∧ w' = w := by
  have HL := hide hl
  have HR := hide h
  clear hl h
  go_enter Try.func24, Try.ntmps24
  go_wp2
  go_loop [3, 4] (fun s i => ∃ k x : Nat, k ≤ len ∧ x ≤ 4294967295 ∧ i = .int .i64 k ∧ s = .int .u32 x ∧ Hid (x = sumFrom 4294967295 (zs.take k))) (fun _ i => len - (intOf i).toNat)
  case atStart => exact ⟨0, 4294967295, by omega, by omega, rfl, rfl, rfl⟩
  case round =>
    obtain ⟨k, s, hk, hs, rfl, rfl, HS⟩ := hrel
    by_cases hlt : k < len
    · obtain ⟨b, off, c, ha, hcx, hc0, hc1, HT⟩ := Row.get' HR.out HL.out (Below.refl w.heap.size w) hlt
      subst ha
      obtain ⟨x1, e1, hx1, f1⟩ := sum_first s c hs hc0 hc1
      have HF := hide f1
      clear f1
      go_wp2_with fail
      go_loop [3, 5] (fun s i => ∃ j x : Nat, j ≤ 8 ∧ x ≤ 4294967295 ∧ i = .int .i64 j ∧ s = .int .u32 x ∧ Hid (x = bitSteps j x1)) (fun _ i => 8 - (intOf i).toNat)
      case atStart => exact ⟨0, x1, by omega, by omega, rfl, rfl, rfl⟩
      case round =>
        obtain ⟨j, x, hj, hx, rfl, rfl, HX⟩ := hrel
        by_cases hj8 : j < 8
        · by_cases ho : x % 2 = 1
          · have hb : ((x : Int) % 2 == 1) = true := by simp; omega
            have HSo := hide (bitStep_odd x ho (by omega))
            have HLo := hide (bitStep_lt (s := x) (by omega))
            clear ho
            go_wp2_with fail
            go_round
            case rel => exact ⟨j + 1, bitStep x, by omega, by have := HLo.out; omega, by go_num, by rw [← HSo.out]; simp, by unfold Hid; rw [bitSteps_succ, ← HX.out]⟩
            case measure => simp [intOf]; omega
          · have hb : ((x : Int) % 2 == 1) = false := by simp; omega
            have HSo : Hid (bitStep x = x / 2) := by unfold Hid bitStep; rw [if_neg ho]
            clear ho
            go_wp2_with fail
            go_round
            case rel => exact ⟨j + 1, bitStep x, by omega, by rw [HSo.out]; omega, by go_num, by rw [HSo.out]; simp, by unfold Hid; rw [bitSteps_succ, ← HX.out]⟩
            case measure => simp [intOf]; omega
        · have hj5 : 8 ≤ j := by omega
          have HX8 := hide (sum_take HT.out HS.out (show x = bitSteps 8 (s ^^^ c.toNat) by rw [← HF.out, HX.out, show j = 8 by omega]))
          clear HX HT HS
          go_wp2_with fail
          go_round
          case rel => exact ⟨k + 1, x, by omega, hx, by go_num, rfl, HX8⟩
          case measure => simp [intOf]; omega
    · have HE : Hid (s = sumFrom 4294967295 zs) := by have := HS.out; rwa [List.take_of_length_le (by rw [HL.out]; omega)] at this
      go_wp2_with fail
      go_ret
      exact ⟨ret_u32 (by rw [HE.out]; exact xor_cast 4294967295 _ (by decide) (by rw [← HE.out]; omega)), rfl⟩

theorem step_append_own {P : Program} {ops : Array Oper} {o : Oper} {a : Act} {w : World} {K : Act → World → Prop} {Q : Exit → Act → World → Prop} {E : Prop}
    (hg : o.guard = none) (s x : Operand) (t : TypeId) (hop : o.op = Op.call { callee := Callee.builtin Builtin.append, args := #[s, x], argTypes := #[t, t] })
    (base : Nat) (e : TypeId) (i : TypeInfo) (z : Value) (size bytes : Nat) (ht : P.underlying t = some (.slice e)) (hi : P.info? e = some i) (hz : i.zero = some z)
    (hsize : i.size = size) (hby : i.bytes = bytes) (hzs : z.cells.size = size) (hsz : 0 < size)
    (v : Value) (n : Nat) (xs : List Value) (hs : a.eval s = v) (hown : w.ownsRow base e size v n xs)
    (ad : Addr) (m c : Nat) (news : List Value) (hx : a.eval x = .slice (some ad) m c) (hl : news.length = m * size) (hnews : ∀ j u, news[j]? = some u → w.cell? (ad.add j) = some u) (h1 : ∀ u ∈ news, u.oneCell' = true)
    (h63 : n + m ≤ maxLen) (hbytes : (n + m) * bytes ≤ 140737488355328) (hbase : base ≤ w.heap.size)
    (hK : ∀ v' w', w'.ownsRow base e size v' (n + m) (xs ++ news) → w.grownBy w' v.ownBlock → K (a.put o.dst v') w') :
    if Region.wanted o (yielded ops a.tmps) = true then Oper.wp P o a w K Q else E := by
  have hw : Region.wanted o (yielded ops a.tmps) = true := by simp [Region.wanted, hg]
  rw [if_pos hw]
  obtain ⟨v', w', hr, h2, h3, _⟩ := run_append_own (P := P) w base t o.type e i z size bytes ht hi hz hsize hby hzs hsz v n xs hown ad m c news hl hnews h1 h63 hbytes hbase
  unfold Oper.wp
  simp [execOp, hop, resolve, invoke, builtin, hs, hx, hr, Result.andThen]
  exact hK v' w' h2 h3

theorem own_string {w : World} {base : Nat} {a : Option Addr} {n cap : Nat} {zs : List Int} (h : w.ownsRow base 5 1 (.slice a n cap) n (zs.map (Value.int .u8))) :
    (convert 23 9 (.slice a n cap)).run Try.prog w = .ok (.string (strOfNums zs)) w := by
  have hl : zs.length = n := by simpa using h.1
  rcases h.2 with ⟨e, h0⟩ | ⟨g, cap', cur, e, _⟩
  · simp only [Value.slice.injEq] at e
    obtain ⟨rfl, rfl, rfl⟩ := e
    have : zs = [] := List.eq_nil_of_length_eq_zero hl
    subst this
    exact run_convert_bytes_nil (P := Try.prog) w 23 5 Try.underlying23 Try.underlying5 0 0 9 Try.underlying9
  · simp only [Value.slice.injEq, true_and] at e
    obtain ⟨rfl, rfl⟩ := e
    refine run_convert_bytes_arg (P := Try.prog) w 23 5 Try.underlying23 Try.underlying5 g 0 n cap zs hl (fun i hi => ?_) 9 Try.underlying9
    simp only [Nat.zero_add]
    rw [h.cellAt i (by omega)]
    have : i < zs.length := by omega
    simp [List.getD, this]

set_option maxHeartbeats 1000000 in
theorem refHex_any (a : Option Addr) (len cap : Nat) (zs : List Int) (w : World) (hl : zs.length = len) (hlen : len ≤ 1048576) (h : Row w a zs) :
    Calls Try.prog 26 #[.slice a len cap] w fun e w' => e = .returned (.string (strOfNums (hexB zs))) ∧ Below w.heap.size w w' := by
  obtain ⟨i0, hi, hz0, hz1, hz2⟩ := info_parts info5
  have HL := hide hl
  have HR := hide h
  clear hl h
  go_enter Try.func26, Try.ntmps26
  go_wp2_with fail
  go_loopw [3, 4] (fun v i wr => ∃ (k : Nat) (x : Option Addr) (cx : Nat), k ≤ len ∧ i = .int .i64 k ∧ v = .slice x (2 * k) cx ∧ wr.ownsRow w.heap.size 5 1 (.slice x (2 * k) cx) (2 * k) ((hexB (zs.take k)).map (Value.int .u8)) ∧ Below w.heap.size w wr)
    (fun _ i _ => len - (intOf i).toNat)
  case atStart => exact ⟨0, none, 0, by omega, rfl, rfl, World.ownsRow_nil _ _ _ _, Below.refl _ _⟩
  case round =>
    obtain ⟨k, x, cx, hk, rfl, rfl, hown, hbel⟩ := hrel
    by_cases hlt : k < len
    · obtain ⟨b, off, c, ha, hcx, hc0, hc1, HT⟩ := Row.get' HR.out HL.out hbel hlt
      subst ha
      obtain ⟨m, hm, hm1, hmE⟩ : ∃ m : Nat, c.tmod 16 = (m : Int) ∧ m ≤ 15 ∧ m = (c % 16).toNat := ⟨(c % 16).toNat, by rw [Int.tmod_eq_emod_of_nonneg hc0]; omega, by omega, rfl⟩
      obtain ⟨q, hq, hq1, hqE⟩ : ∃ q : Nat, IntKind.u8.wrap (c.tdiv 16) = (q : Int) ∧ q ≤ 15 ∧ q = (c / 16).toNat := ⟨(c / 16).toNat, by rw [Int.tdiv_eq_ediv_of_nonneg hc0, IntKind.wrap_u8']; omega, by omega, rfl⟩
      have HN := hide (hexB_snoc HT.out)
      rw [← hmE, ← hqE] at HN
      clear hmE hqE HT
      have hm2 : (m : Int) < 16 := by omega
      have hq2 : (q : Int) < 16 := by omega
      have hm3 : m < 16 := by omega
      have hq3 : q < 16 := by omega
      go_wp2_with fail
      go_region_law (refine step_append_own rfl _ _ 23 rfl w.heap.size 5 i0 (.int .u8 0) 1 1 Try.underlying23 hi hz0 hz1 hz2 rfl (by decide) _ (2 * k) _ rfl (hown.alloc _).drew ⟨wr.heap.size, 0, none⟩ 2 2 [.int .u8 ((({ data := #[48, 49, 50, 51, 52, 53, 54, 55, 56, 57, 97, 98, 99, 100, 101, 102] } : ByteArray)[q]'hq3).toNat : Int), .int .u8 ((({ data := #[48, 49, 50, 51, 52, 53, 54, 55, 56, 57, 97, 98, 99, 100, 101, 102] } : ByteArray)[m]'hm3).toNat : Int)] rfl rfl (cells_two_new _ _ _ _) (two_cells _ _) (by unfold maxLen; omega) (by omega) (by have := hbel.size; simp; omega) ?_; intro v2 w2 hown2 hgrow2)
      all_goals
        have hbel2 : Below w.heap.size w w2 := ((hbel.alloc hbel.size _).drew).grown hgrow2 (by have := hbel.size; simp; omega) (fun k hk => (hown.lt k hk).1)
        rw [digit_at q hq3, digit_at m hm3] at hown2
        obtain ⟨x2, cx2, hv⟩ := own_shape hown2
        subst hv
        clear hgrow2 hown
        go_wp2
        go_roundw
        case rel => exact ⟨k + 1, x2, cx2, by omega, by go_num, rfl, by rw [HN.out]; simpa [Nat.mul_add] using hown2, hbel2⟩
        case measure => simp [intOf]; omega
    · have e : k = len := by omega
      subst e
      rw [List.take_of_length_le (by rw [HL.out]; omega)] at hown
      have hcv := own_string hown
      clear hown
      go_wp2
      go_ret
      exact ⟨rfl, hbel⟩

end Go.Proofs.Ytkiigmfdfkflpaa
