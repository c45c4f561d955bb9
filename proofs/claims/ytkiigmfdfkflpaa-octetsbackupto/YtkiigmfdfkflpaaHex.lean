/- Hex, the program's: of any bytes it answers what hexB says, and leaves what was there as it was. -/
import Derived.Test.YtkiigmfdfkflpaaBase
import Derived.Deep.RegionLaw
import Derived.Laws.BytesArg
import Derived.Laws.BitsAllLaws
namespace Go.Proofs.Ytkiigmfdfkflpaa
open Go.RowKit

theorem step_append_fits {P : Program} {ops : Array Oper} {o : Oper} {a : Act} {w : World} {K : Act → World → Prop} {Q : Exit → Act → World → Prop} {E : Prop}
    (hg : o.guard = none) (s x : Operand) (t : TypeId) (hop : o.op = Op.call { callee := Callee.builtin Builtin.append, args := #[s, x], argTypes := #[t, t] })
    (base : Nat) (e : TypeId) (i : TypeInfo) (size : Nat) (h1 : P.underlying t = some (.slice e)) (h2 : P.info? e = some i) (h4 : i.size = size)
    (g k cap : Nat) (xs : List Value) (hs : a.eval s = .slice (some ⟨g, 0, none⟩) k cap) (hown : w.ownsRow base e size (.slice (some ⟨g, 0, none⟩) k cap) k xs) (ad : Addr) (m c : Nat) (news : List Value) (hx : a.eval x = .slice (some ad) m c) (hn : news.length = m * size)
    (hc : ∀ j u, news[j]? = some u → w.cell? (ad.add j) = some u) (h1c : ∀ u ∈ news, u.oneCell' = true) (b1 : k + m ≤ cap)
    (hK : ∀ w', w'.ownsRow base e size (.slice (some ⟨g, 0, none⟩) (k + m) cap) (k + m) (xs ++ news) → w.grownBy w' (some g) → K (a.put o.dst (.slice (some ⟨g, 0, none⟩) (k + m) cap)) w') :
    if Region.wanted o (yielded ops a.tmps) = true then Oper.wp P o a w K Q else E := by
  have hw : Region.wanted o (yielded ops a.tmps) = true := by simp [Region.wanted, hg]
  rw [if_pos hw]
  obtain ⟨w', hrun, r1, r2⟩ := run_append_fits (P := P) w base t o.type e i size h1 h2 h4 g k cap xs hown ad m c news hn hc h1c b1
  unfold Oper.wp
  simp [execOp, hop, resolve, invoke, builtin, hs, hx, hrun, Result.andThen]
  exact hK w' r1 r2

theorem cells_two_new (w : World) (x y : Value) (t : TypeId) : ∀ j u, [x, y][j]? = some u → (w.alloc (.cells #[x, y] t)).cell? ((⟨w.heap.size, 0, none⟩ : Addr).add j) = some u := by
  intro j u hu
  have hadd : (⟨w.heap.size, 0, none⟩ : Addr).add j = ⟨w.heap.size, j, none⟩ := by unfold Addr.add; split <;> simp_all
  rw [hadd, cell_of_row _ _ _ _ _ _ (heap_alloc_new w _)]
  simpa using hu

theorem two_cells (c d : Int) : ∀ u ∈ [Value.int .u8 c, Value.int .u8 d], u.oneCell' = true := by
  intro u hu; simp at hu; rcases hu with rfl | rfl <;> rfl

/-- A small digit. -/
def hexD (q : Nat) : Int := if q < 10 then 48 + q else 87 + q

/-- Two small digits a byte. -/
def hexB (l : List Int) : List Int := l.flatMap fun c => [hexD (c / 16).toNat, hexD (c % 16).toNat]

theorem digit_at (q : Nat) (h : q < 16) : ((({ data := #[48, 49, 50, 51, 52, 53, 54, 55, 56, 57, 97, 98, 99, 100, 101, 102] } : ByteArray)[q]'h).toNat : Int) = hexD q := by
  have : ∀ i : Fin 16, ((({ data := #[48, 49, 50, 51, 52, 53, 54, 55, 56, 57, 97, 98, 99, 100, 101, 102] } : ByteArray)[i.1]'i.2).toNat : Int) = hexD i.1 := by decide +kernel
  exact this ⟨q, h⟩

theorem and15 (c : Int) (h0 : 0 ≤ c) (h1 : c ≤ 255) : ∃ m : Nat, bits .and .u8 c 15 = (m : Int) ∧ m ≤ 15 ∧ m = (c % 16).toNat := by
  refine ⟨(c % 16).toNat, ?_, by omega, rfl⟩
  rw [u8_and c 15 h0 (by omega) (by omega) (by omega), show (15 : Int).toNat = 15 from rfl, nat_mask4]
  omega

theorem hexB_snoc {zs : List Int} {k : Nat} {c : Int} (h : zs.take (k + 1) = zs.take k ++ [c]) : hexB (zs.take (k + 1)) = hexB (zs.take k) ++ [hexD (c / 16).toNat, hexD (c % 16).toNat] := by
  rw [h]; simp [hexB]

theorem hexB_len (l : List Int) : (hexB l).length = 2 * l.length := by
  induction l with
  | nil => rfl
  | cons c r ih => simp [hexB] at ih ⊢; omega

set_option maxHeartbeats 400000 in
theorem hex_any (a : Option Addr) (len cap : Nat) (zs : List Int) (w : World) (hl : zs.length = len) (hlen : len ≤ 140737488351232) (h : Row w a zs) :
    Calls Try.prog 25 #[.slice a len cap] w fun e w' => e = .returned (.string (strOfNums (hexB zs))) ∧ Below w.heap.size w w' := by
  obtain ⟨i0, hi, hz0, hz1, hz2⟩ := info_parts info5
  have HL := hide hl
  have HR := hide h
  clear hl h
  go_enter Try.func25, Try.ntmps25
  go_wp2_with (at_make; go_must (refine wpList_make_own _ rfl _ _ 23 rfl w.heap.size 5 i0 (.int .u8 0) 1 Try.underlying23 hi hz0 hz1 .i64 .i64 _ (2 * len) rfl rfl (by omega) (by rw [hz2]; omega) (by unfold maxLen; omega) (Nat.le_refl _) ?_; intro w1 hown hgrow))
  go_loopw [3, 12] (fun v i wr => ∃ (k : Nat), k ≤ len ∧ i = .int .i64 k ∧ v = .slice (some ⟨w.heap.size, 0, none⟩) (2 * k) (2 * len) ∧ wr.ownsRow w.heap.size 5 1 (.slice (some ⟨w.heap.size, 0, none⟩) (2 * k) (2 * len)) (2 * k) ((hexB (zs.take k)).map (Value.int .u8)) ∧ Below w.heap.size w wr)
    (fun _ i _ => len - (intOf i).toNat)
  case atStart => exact ⟨0, by omega, rfl, rfl, hown, (Below.refl _ _).grown hgrow (Nat.le_refl _) (by simp)⟩
  case round =>
    clear hown hgrow
    obtain ⟨k, hk, rfl, rfl, hown, hbel⟩ := hrel
    by_cases hlt : k < len
    · obtain ⟨b, off, c, ha, hcx, hc0, hc1, HT⟩ := Row.get' HR.out HL.out hbel hlt
      subst ha
      obtain ⟨m, hm, hm1, hmE⟩ := and15 c hc0 hc1
      obtain ⟨q, hq, hq1, hqE⟩ : ∃ q : Nat, c / 16 = (q : Int) ∧ q ≤ 15 ∧ q = (c / 16).toNat := ⟨(c / 16).toNat, by omega, by omega, rfl⟩
      have HN := hide (hexB_snoc HT.out)
      rw [← hmE, ← hqE] at HN
      clear hmE hqE HT
      have hm2 : (m : Int) < 16 := by omega
      have hq2 : (q : Int) < 16 := by omega
      have hm3 : m < 16 := by omega
      have hq3 : q < 16 := by omega
      go_wp2_with fail
      go_region_law (refine step_append_fits rfl _ _ 23 rfl w.heap.size 5 i0 1 Try.underlying23 hi hz1 w.heap.size (2 * k) (2 * len) _ rfl (hown.alloc _).drew ⟨wr.heap.size, 0, none⟩ 2 2 [.int .u8 ((({ data := #[48, 49, 50, 51, 52, 53, 54, 55, 56, 57, 97, 98, 99, 100, 101, 102] } : ByteArray)[q]'hq3).toNat : Int), .int .u8 ((({ data := #[48, 49, 50, 51, 52, 53, 54, 55, 56, 57, 97, 98, 99, 100, 101, 102] } : ByteArray)[m]'hm3).toNat : Int)] rfl rfl (cells_two_new _ _ _ _) (two_cells _ _) (by omega) ?_; intro w2 hown2 hgrow2)
      all_goals
        have hbel2 : Below w.heap.size w w2 := ((hbel.alloc hbel.size _).drew).grown hgrow2 (by have := hbel.size; simp; omega) (fun k hk => by simp at hk; omega)
        rw [digit_at q hq3, digit_at m hm3] at hown2
        clear hgrow2 hown
        go_wp2
        go_roundw
        case rel => exact ⟨k + 1, by omega, by go_num, rfl, by rw [HN.out]; simpa [Nat.mul_add] using hown2, hbel2⟩
        case measure => simp [intOf]; omega
    · have e : k = len := by omega
      subst e
      rw [List.take_of_length_le (by rw [HL.out]; omega)] at hown
      have hcv := run_convert_bytes_arg (P := Try.prog) wr 23 5 Try.underlying23 Try.underlying5 w.heap.size 0 (2 * k) (2 * k) (hexB zs) (by rw [hexB_len, HL.out]) (fun i hi => by
        have := hown.cellAt i (by omega)
        simp only [Nat.zero_add]
        rw [this]
        have hl : i < (hexB zs).length := by rw [hexB_len, HL.out]; exact hi
        simp [List.getD, hl]) 9 Try.underlying9
      go_wp2
      go_ret
      exact ⟨rfl, hbel⟩

end Go.Proofs.Ytkiigmfdfkflpaa
