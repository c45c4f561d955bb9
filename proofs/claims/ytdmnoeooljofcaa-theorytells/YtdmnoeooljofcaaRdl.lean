/- The reader: list, mark. -/
import Derived.Test.YtdmnoeooljofcaaRdr
namespace Go.Proofs.Ytdmnoeooljofcaa
open Go.RowKit

def vL (B : Nat) (w : World) (l : List Int) (v : Value) : Prop := w.ownsRow B 3 1 v l.length (ints l)
abbrev Zr (R : Nat) (w : World) (k : Nat) : Prop := k = R ∨ w.heap.size ≤ k
theorem fr_r {R : Nat} {w w' : World} (h : Fr (Zr R w) w w') : Fr (fun k => k = R) w w' := h.mono fun k hk e => by rcases e with e | e; exact e; omega
theorem fr_of_r {R : Nat} {w w1 w2 : World} (h1 : Fr (Zr R w) w w1) (h2 : Fr (fun k => k = R) w1 w2) : Fr (Zr R w) w w2 := h1.trans (h2.mono fun _ _ e => .inl e)
theorem fr_grown {R : Nat} {w w1 w2 : World} {tv : Value} {g : Nat} {ob : Obj} (h1 : Fr (Zr R w) w w1) (hg : (tv.ownBlock = some g ∧ (w1.alloc ob).grownBy w2 (some g)) ∨ (g = w1.heap.size + 1 ∧ (w1.alloc ob).grownBy w2 none)) (hz : ∀ g, tv.ownBlock = some g → w.heap.size ≤ g) : Fr (Zr R w) w w2 :=
  h1.trans (grown_fr rfl hg fun g e => .inr (hz g e))
theorem nums_len {zs : List Int} {below other : Int} : ∀ {k : Nat} {least : Int} {acc res : List Int} {p q : Nat}, numsM zs below other k least acc p = .ok (res, q) → res.length = acc.length + k
  | 0, least, acc, res, p, q, h => by unfold numsM at h; cases h; rfl
  | k + 1, least, acc, res, p, q, h => by
    unfold numsM at h
    obtain ⟨x, h1, h2⟩ := bind_iff.1 h
    have := nums_len h2
    simp at this
    omega
set_option maxRecDepth 100000 in
set_option maxHeartbeats 6400000 in
theorem list_any {R : Nat} {ba : Option Addr} {bc : Nat} {zs : List Int} {p : Nat} {w : World} (h : Rd R ba bc zs p w) {most least below other : Int} (h0 : 0 ≤ most) (h1 : most ≤ 4096) (l0 : 0 ≤ least) (l1 : least ≤ 100000) (b0 : 0 ≤ below) (b1 : below ≤ 100000) :
    Calls Try.prog 60 #[ptr R, .int .i64 most, .int .i64 least, .int .i64 below, .int .i64 other] w fun e w' => Eo R ba bc zs w (vL w.heap.size) (listM zs most least below other p) e w' := by
  obtain ⟨iI, hiI, zI0, zI1, zI2⟩ := info_parts infoI
  have CC := hide (count_any h h0 (by omega))
  obtain ⟨o, ho⟩ : ∃ o, listM zs most least below other p = o := ⟨_, rfl⟩
  rw [ho]
  have HO := hide ho
  have hR := h.lt
  clear h ho
  go_enter Try.func60, Try.ntmps60
  go_wp2_with fail
  refine CC.out.mono ?_
  intro e w1 hE
  rcases hE.split with ⟨z, q0, v, e1, rfl, e2, e3, e4⟩ | ⟨c, p', e1, rfl, e4⟩
  rotate_left
  · exact on_panic rfl (Eo.no (bind_no HO.out e1) e4)
  rw [vZ] at e2
  subst e2
  have hz : 0 ≤ z ∧ z ≤ most := by
    unfold countM numM at e1
    split at e1
    · cases e1
    · split at e1
      · cases e1
      · simp only [Except.ok.injEq, Prod.mk.injEq] at e1; omega
  obtain ⟨N, rfl⟩ := Int.eq_ofNat_of_zero_le hz.1
  have HO2 : Hid (numsM zs below other (N - 0) least [] q0 = o) := hide (by have := bind_ok HO.out e1; simpa using this)
  have HD := hide e3
  have HF : Hid (Fr (Zr R w) w w1) := hide (fr_of_r (Fr.refl _ _) e4)
  have hN : N ≤ 4096 := by omega
  clear hE e1 e3 e4 HO CC hz
  go_wp2_with fail
  go_loopw [2, 11, 16] (fun u y x wr => ∃ (k : Nat) (ls : Int) (acc : List Int) (a : Option Addr) (c q : Nat), k ≤ N ∧ x = .int .i64 k ∧ u = .int .i64 ls ∧ 0 ≤ ls ∧ ls ≤ 100001 ∧ y = .slice a acc.length c ∧ acc.length ≤ k ∧ Hid (wr.ownsRow w.heap.size 3 1 (.slice a acc.length c) acc.length (ints acc)) ∧ Hid (Rd R ba bc zs q wr) ∧ Hid (Fr (Zr R w) w wr) ∧ Hid (numsM zs below other (N - k) ls acc q = o)) (fun _ _ x _ => N - (intOf x).toNat)
  case atStart => exact ⟨0, least, [], none, 0, q0, by omega, rfl, rfl, l0, by omega, rfl, by simp, hide ⟨rfl, .inl ⟨rfl, rfl⟩⟩, HD, HF, HO2⟩
  case round =>
    clear HD HF HO2
    obtain ⟨k, ls, acc, a, c, q, hk, rfl, rfl, hl0, hl1, rfl, hal, HRow, HD, HF, HO⟩ := hrel
    by_cases hlt : k < N
    · have CN := hide (number_any HD.out (least := ls) (below := below) (other := other) hl0 (by omega) b0 (by omega))
      have HS : Hid ((numM zs ls below other q >>= fun x => numsM zs below other (N - (k + 1)) (x.1 + 1) (acc ++ [x.1]) x.2) = o) := hide (by have := HO.out; rw [show N - k = (N - (k + 1)) + 1 by omega, numsM] at this; exact this)
      clear HO
      go_wp2_with fail
      refine CN.out.mono ?_
      intro e w2 hE
      rcases hE.split with ⟨z, q2, v, e1, rfl, e2, e3, e4⟩ | ⟨c2, p2, e1, rfl, e4⟩
      rotate_left
      · exact ⟨rfl, Eo.no (bind_no HS.out e1) (fr_r (fr_of_r HF.out e4))⟩
      rw [vZ] at e2
      subst e2
      have hzb : 0 ≤ z ∧ z < below := by
        unfold numM at e1
        split at e1
        · cases e1
        · split at e1
          · cases e1
          · simp only [Except.ok.injEq, Prod.mk.injEq] at e1; omega
      have HN := hide (bind_ok HS.out e1)
      have hrow2 := owns_keep HRow.out fun g hg => e4.block g (owns_lt HRow.out hg) fun e => by have := (HRow.out.lt g hg).1; omega
      have HD2 := hide e3
      have HF2 := hide (fr_of_r HF.out e4)
      have hA := below_new w2 (.cells #[.int .i64 z] 3)
      have HROW := hide (owns_keep hrow2 fun g hg => hA.block g (owns_lt hrow2 hg))
      have HR2 := hide hrow2
      have hw2 : w.heap.size ≤ w2.heap.size := HF2.out.size
      clear hE e1 e3 e4 HS CN HRow HD HF hA hrow2
      go_upto_region 6 with (at_builtin; go_must (refine wpList_append_two _ rfl _ _ 38 rfl w.heap.size 3 iI _ 1 8 Try.underlying38 hiI zI0 zI1 zI2 rfl (by decide) _ _ (ints acc) rfl HROW.out ⟨w2.heap.size, 0, none⟩ 1 [.int .i64 z] rfl rfl (cell_one_new _ _ _) (by intro u hu; simp at hu; subst hu; rfl) (by unfold maxLen; omega) (by omega) (by simp; omega) ?_); intro g4 cap4 w4 hown4 hg4)
      have hg5 : (Value.ownBlock (.slice a acc.length c) = some g4 ∧ (w2.alloc (.cells #[.int .i64 z] 3)).grownBy w4 (some g4)) ∨ (g4 = w2.heap.size + 1 ∧ (w2.alloc (.cells #[.int .i64 z] 3)).grownBy w4 none) := by
        rcases hg4 with h | ⟨h1, h2⟩
        · exact .inl h
        · exact .inr ⟨by simpa using h1, h2⟩
      have HF4 := hide (fr_grown HF2.out hg5 fun g e => (HR2.out.lt g e).1)
      have HD4 := hide (HD2.out.keep fun k hk => grown_old rfl hg5 (by omega) fun e => by have := (HR2.out.lt k e).1; omega)
      have HO4 := hide hown4
      clear hown4 hg4 hg5
      go_wp2_with fail
      go_roundw
      case rel => exact ⟨k + 1, z + 1, acc ++ [z], some ⟨g4, 0, none⟩, cap4, q2, by omega, by go_num, by go_num, by omega, by omega, by rw [List.length_append]; rfl, by rw [List.length_append]; simp; omega, hide (by rw [List.length_append, ints_snoc]; exact HO4.out), HD4, HF4, HN⟩
      case measure => simp [intOf]; omega
    · have HN : Hid (o = .ok (acc, q)) := hide (by have := HO.out; rw [show N - k = 0 by omega] at this; exact this.symm)
      clear HO
      go_wp2_with fail
      go_ret
      exact Eo.yes HN.out HRow.out HD.out (fr_r HF.out)
end Go.Proofs.Ytdmnoeooljofcaa
