/- The reader: sum. -/
import Derived.Test.YtagpdceaononkaaWRd
import Derived.Test.YtagpdceaononkaaWSum
import Derived.Laws.StructEq
import Derived.Laws.Tables
import Derived.KernelRfl
namespace Go.Proofs.Ytagpdceaononkaa
open Go.RowKit

def gotA (L : List Int) : Array Value := ((List.range 4).map fun j => Value.int .u8 (L.getD j 0)).toArray
theorem gotA_one (L : List Int) : (gotA L).all (·.oneCell') = true := by simp [gotA, Value.oneCell']
theorem gotA_set (L : List Int) (k : Nat) (z : Int) (hk : k < 4) (hl : L.length = k) : (gotA L).setIfInBounds k (.int .u8 z) = gotA (L ++ [z]) := by
  have : k = 0 ∨ k = 1 ∨ k = 2 ∨ k = 3 := by omega
  rcases this with rfl | rfl | rfl | rfl
  · match L, hl with
    | [], _ => rfl
  · match L, hl with
    | [a], _ => rfl
  · match L, hl with
    | [a, b], _ => rfl
  · match L, hl with
    | [a, b, c], _ => rfl
theorem gotA_four (a b c d : Int) : gotA [a, b, c, d] = (byts [a, b, c, d]).toArray := rfl
theorem four_of_len {L : List Int} (h : L.length = 4) : ∃ a b c d, L = [a, b, c, d] := by
  match L, h with
  | [a, b, c, d], _ => exact ⟨a, b, c, d, rfl⟩
theorem take_more {zs : List Int} {p k : Nat} (h : p + k < zs.length) : (zs.drop p).take (k + 1) = (zs.drop p).take k ++ [zs.getD (p + k) 0] := by
  rw [List.take_succ_eq_append_getElem (by rw [List.length_drop]; omega), List.getElem_drop]
  simp [List.getD, h]
theorem Rd.head {R : Nat} {ba : Option Addr} {bc : Nat} {zs : List Int} {p q : Nat} {w : World} (h : Rd R ba bc zs p w) : Row w ba (zs.take q) := by
  refine ⟨fun hz => ?_, fun i => ?_⟩
  · obtain ⟨b, off, e, hc⟩ := h.row.cells (fun e => hz (by rw [e]; simp))
    refine ⟨b, off, e, fun i hi => ?_⟩
    rw [List.length_take] at hi
    rw [hc i (by omega)]
    simp [List.getD, show i < q by omega]
  · rw [List.getElem?_take]
    split
    · exact h.row.byte i
    · simp
structure Got (R : Nat) (ba : Option Addr) (bc : Nat) (zs : List Int) (w : World) (L : List Int) (q : Nat) (wr : World) : Prop where
  rd : Rd R ba bc zs q wr
  bx : wr.heap[w.heap.size]? = some (.cells (gotA L) 80 (0, 0))
  fr : Fr (fun k => k = R ∨ w.heap.size ≤ k) w wr
theorem byts_inj {a b : List Int} (h : byts a = byts b) : a = b := by
  induction a generalizing b with
  | nil => cases b with
    | nil => rfl
    | cons _ _ => cases h
  | cons x a ih => cases b with
    | nil => cases h
    | cons y b =>
      unfold byts at h ih
      simp only [List.map_cons, List.cons.injEq, Value.int.injEq, true_and] at h
      rw [h.1, ih h.2]
theorem sum_short {zs : List Int} {p k : Nat} {c p' : Int} (hk : k < 4) (hpk : p + k ≤ zs.length) (h : nxtM zs (p + k) = .error (c, p')) : sumM zs p = .error (c, p') := by
  unfold nxtM at h
  split at h
  · cases h
    unfold sumM
    rw [if_pos (by omega), show zs.length = p + k by omega]
  · cases h
theorem next_ok {zs : List Int} {p q : Nat} {z : Int} (h : nxtM zs p = .ok (z, q)) : p < zs.length ∧ q = p + 1 ∧ z = zs.getD p 0 := by
  unfold nxtM at h
  split at h
  · cases h
  · cases h
    exact ⟨by omega, rfl, rfl⟩
theorem Got.set {R : Nat} {ba : Option Addr} {bc : Nat} {zs : List Int} {w wr : World} {L : List Int} {q k : Nat} {z : Int} (h : Got R ba bc zs w L q wr) (hR : R < w.heap.size) (hk : k < 4) (hl : L.length = k) : Got R ba bc zs w (L ++ [z]) q (wr.setCell ⟨w.heap.size, k, none⟩ (.int .u8 z)) :=
  ⟨h.rd.keep fun g hg => other_set (by omega), by rw [heap_setCell_same _ _ _ _ _ _ h.bx, gotA_set L k z hk hl], h.fr.trans (.setCell ⟨w.heap.size, k, none⟩ _ (.inr (Nat.le_refl _)))⟩
theorem keep_at {wr w5 : World} {b k : Nat} {v : Value} (h : Below (wr.drewN 1).heap.size (wr.drewN 1) w5) (hb : b < wr.heap.size) (hc : wr.cell? ⟨b, k, none⟩ = some v) : w5.cell? ⟨b, k, none⟩ = some v := (World.cell?_of_block (h.block b hb)).trans hc
theorem eq_four (a b c d x y z u : Int) (w : World) : (Op.equalIn 10000 80 (.agg #[.int .u8 a, .int .u8 b, .int .u8 c, .int .u8 d]) (.agg #[.int .u8 x, .int .u8 y, .int .u8 z, .int .u8 u])).run Try.prog w = .ok (decide ([a, b, c, d] = [x, y, z, u])) w := by
  have u3 := Try.underlying5
  have z3 := Try.sizeOf5
  rw [show (10000 : Nat) = 9999 + 1 from rfl, Op.equalIn]
  simp only [Sem.run_bind, run_underlying Try.underlying80, Result.andThen_ok]
  simp only [Std.Legacy.Range.forIn_eq_forIn_range', Std.Legacy.Range.size, Nat.sub_zero, Nat.add_sub_cancel, Nat.div_one, List.range'_succ, List.range'_zero, List.forIn_cons, List.forIn_nil]
  go_simp
  by_cases h1 : a = x <;> by_cases h2 : b = y <;> by_cases h3 : c = z <;> by_cases h4 : d = u <;> simp [h1, h2, h3, h4]
set_option maxRecDepth 100000 in
set_option maxHeartbeats 12800000 in
theorem wsum_any {R : Nat} {ba : Option Addr} {bc : Nat} {zs : List Int} {p : Nat} {w : World} (h : Rd R ba bc zs p w) :
    Calls Try.prog 41 #[ptr R] w fun e w' => Fr (fun k => k = R) w w' ∧ ((∃ q, sumM zs p = .ok q ∧ e = .returned (.tuple #[]) ∧ Rd R ba bc zs q w') ∨ ∃ c p', sumM zs p = .error (c, p') ∧ e = .panicked [flt c p']) := by
  obtain ⟨o, ho⟩ : ∃ o, sumM zs p = o := ⟨_, rfl⟩
  rw [ho]
  have HO := hide ho
  have c1 := h.c1
  have hRl := h.lt
  have hlen := h.len
  have CG := hide (fun c p X => giveUp_any (ptr R) c p X)
  have hb1 := below_new w (.cells #[.int .u8 0, .int .u8 0, .int .u8 0, .int .u8 0] 80)
  have HG : Hid (Got R ba bc zs w [] p (w.alloc (.cells #[.int .u8 0, .int .u8 0, .int .u8 0, .int .u8 0] 80))) := hide ⟨h.below hb1, heap_alloc_new w _, .of_below hb1⟩
  clear h ho hb1
  go_enter Try.func41, Try.ntmps41
  go_wp2_with fail
  go_loopw [9] (fun x wr => ∃ (k : Nat) (L : List Int), k ≤ 4 ∧ x = .int .i64 k ∧ p + k ≤ zs.length ∧ Hid (L = (zs.drop p).take k) ∧ Hid (L.length = k) ∧ Hid (Got R ba bc zs w L (p + k) wr)) (fun x _ => 4 - (intOf x).toNat)
  case atStart => exact ⟨0, [], by omega, rfl, by have := HG.out.rd.pos; omega, rfl, rfl, HG⟩
  case round =>
    clear HG
    obtain ⟨k, L, hk, rfl, hpk, HL, HLl, HG⟩ := hrel
    by_cases hlt : k < 4
    · have CN := hide (next_any HG.out.rd)
      have hwl : w.heap.size < wr.heap.size := loc_lt HG.out.bx
      go_upto_region 5 with fail
      go_wp2_with fail
      refine CN.out.mono ?_
      intro e w2 hE
      rcases hE.split with ⟨z, q, v, e1, rfl, e2, e3, e4⟩ | ⟨c, p', e1, rfl, e4⟩
      rotate_left
      · exact ⟨rfl, (HG.out.fr.trans (e4.mono fun _ _ e => .inl e)).mono (fun k hk e => e.elim id fun h => absurd hk (by omega)), .inr ⟨_, _, HO.out.symm.trans (sum_short hlt hpk e1), rfl⟩⟩
      rw [vB] at e2
      subst e2
      obtain ⟨n1, rfl, n2⟩ := next_ok e1
      have HG2 : Hid (Got R ba bc zs w L (p + k + 1) w2) := hide ⟨e3, (e4.block _ hwl (by omega)).trans HG.out.bx, HG.out.fr.trans (e4.mono fun _ _ e => .inl e)⟩
      have hcell : w2.cell? ⟨w.heap.size, k, none⟩ = some (.int .u8 (L.getD k 0)) := by rw [cell_of_row _ _ _ _ _ _ HG2.out.bx]; simp [gotA, hlt]
      have hfr : w2.frozen? ⟨w.heap.size, k, none⟩ = false := frozen_of_row _ _ _ _ _ HG2.out.bx
      have HN : Hid (L ++ [z] = (zs.drop p).take (k + 1)) := hide (by rw [take_more n1, ← HL.out, n2])
      have HN2 : Hid ((L ++ [z]).length = k + 1) := hide (by rw [List.length_append, HLl.out]; rfl)
      have HG3 := hide (HG2.out.set (z := z) hRl hlt HLl.out)
      clear hE e1 e3 e4 HG CN n2 HL
      go_wp2_with fail
      go_roundw
      case rel => exact ⟨k + 1, L ++ [z], by omega, by go_num, by omega, HN, HN2, HG3⟩
      case measure => simp [intOf]; omega
    · have hk4 : k = 4 := by omega
      subst hk4
      obtain ⟨x0, x1, x2, x3, rfl⟩ := four_of_len HLl.out
      have c0 := HG.out.rd.c0
      have hrow := HG.out.rd.head (q := p)
      have hbx := HG.out.bx
      rw [gotA_four] at hbx
      have q0 : wr.cell? ⟨w.heap.size, 0, none⟩ = some (.int .u8 x0) := by rw [cell_of_row _ _ _ _ _ _ hbx]; rfl
      have q1 : wr.cell? ⟨w.heap.size, 1, none⟩ = some (.int .u8 x1) := by rw [cell_of_row _ _ _ _ _ _ hbx]; rfl
      have q2 : wr.cell? ⟨w.heap.size, 2, none⟩ = some (.int .u8 x2) := by rw [cell_of_row _ _ _ _ _ _ hbx]; rfl
      have q3 : wr.cell? ⟨w.heap.size, 3, none⟩ = some (.int .u8 x3) := by rw [cell_of_row _ _ _ _ _ _ hbx]; rfl
      have HBy : Hid (∀ z ∈ zs.take p, 0 ≤ z ∧ z ≤ 255) := hide fun z hz => HG.out.rd.bytes z (List.mem_of_mem_take hz)
      have HTL : Hid ((zs.take p).length = p) := hide (by rw [List.length_take]; omega)
      have hcap := HG.out.rd.cap
      have HWL : Hid (w.heap.size < wr.heap.size) := hide (loc_lt hbx)
      have CS : Hid (∀ q, Calls Try.prog 37 #[.slice ba p bc] (wr.drewN q) fun e w' => e = .returned (.agg (byts (fourB (crc (zs.take p)))).toArray) ∧ Below (wr.drewN q).heap.size (wr.drewN q) w') := hide fun q => sumOf_any ba p bc (zs.take p) (wr.drewN q) HTL.out (by omega) (hrow.below (below_drewN wr q) (Nat.le_refl _)) HBy.out
      have hS : sumM zs p = if [x0, x1, x2, x3] ≠ fourB (crc (zs.take p)) then .error (13, (p : Int)) else .ok (p + 4) := by
        unfold sumM
        rw [if_neg (by omega), ← HL.out]
      rw [HO.out] at hS
      have HS := hide hS
      clear hrow hbx hS HL
      generalize crc (zs.take p) = n at *
      rw [show (Value.agg (byts (fourB n)).toArray) = .agg #[.int .u8 (n % 256), .int .u8 (n / 256 % 256), .int .u8 (n / 65536 % 256), .int .u8 (n / 16777216 % 256)] from rfl] at CS
      by_cases heq : [x0, x1, x2, x3] = fourB n
      · have HE := hide (HS.out.trans (if_neg (by simpa using heq)))
        have hb : ∀ w, (Op.equalIn 10000 80 (.agg #[.int .u8 x0, .int .u8 x1, .int .u8 x2, .int .u8 x3]) (.agg #[.int .u8 (n % 256), .int .u8 (n / 256 % 256), .int .u8 (n / 65536 % 256), .int .u8 (n / 16777216 % 256)])).run Try.prog w = .ok true w := fun w => (eq_four _ _ _ _ _ _ _ _ w).trans (congrArg (fun b => Result.ok b w) (decide_eq_true heq))
        clear heq HS
        go_upto_region 7 with fail
        go_region_with (go_at_call 37; refine (CS.out 1).mono ?_; rintro _ w5 ⟨rfl, hb5⟩; have HB5 := hide hb5; have r0 := keep_at hb5 HWL.out q0; have r1 := keep_at hb5 HWL.out q1; have r2 := keep_at hb5 HWL.out q2; have r3 := keep_at hb5 HWL.out q3; clear hb5)
        all_goals
          go_wp2_with fail
          go_end0
          have hF : Fr (fun k => k = R ∨ w.heap.size ≤ k) wr w5 := (Fr.of_below (below_drewN wr 1)).trans (Fr.of_below HB5.out)
          exact ⟨(HG.out.fr.trans hF).mono (fun k hk e => e.elim id fun h => absurd hk (by omega)), .inl ⟨_, HE.out, rfl, (HG.out.rd.below (below_drewN wr 1)).below HB5.out⟩⟩
      · have HE := hide (HS.out.trans (if_pos (by simpa using heq)))
        have hb : ∀ w, (Op.equalIn 10000 80 (.agg #[.int .u8 x0, .int .u8 x1, .int .u8 x2, .int .u8 x3]) (.agg #[.int .u8 (n % 256), .int .u8 (n / 256 % 256), .int .u8 (n / 65536 % 256), .int .u8 (n / 16777216 % 256)])).run Try.prog w = .ok false w := fun w => (eq_four _ _ _ _ _ _ _ _ w).trans (congrArg (fun b => Result.ok b w) (decide_eq_false heq))
        clear heq HS
        go_upto_region 7 with fail
        go_region_with (go_at_call 37; refine (CS.out 1).mono ?_; rintro _ w5 ⟨rfl, hb5⟩; have HB5 := hide hb5; have r0 := keep_at hb5 HWL.out q0; have r1 := keep_at hb5 HWL.out q1; have r2 := keep_at hb5 HWL.out q2; have r3 := keep_at hb5 HWL.out q3; clear hb5)
        all_goals
          go_wp2_with (go_at_call 42; refine (CG.out _ _ _).mono ?_; rintro _ w1 ⟨rfl, hw⟩; subst w1)
          have hF : Fr (fun k => k = R ∨ w.heap.size ≤ k) wr w5 := (Fr.of_below (below_drewN wr 1)).trans (Fr.of_below HB5.out)
          exact ⟨rfl, (HG.out.fr.trans hF).mono (fun k hk e => e.elim id fun h => absurd hk (by omega)), .inr ⟨_, _, HE.out, rfl⟩⟩
end Go.Proofs.Ytagpdceaononkaa
