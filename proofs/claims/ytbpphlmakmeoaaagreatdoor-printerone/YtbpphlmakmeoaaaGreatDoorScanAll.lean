/- Texts laid together. -/
import Derived.Test.YtbpphlmakmeoaaaGreatDoorProg
import Derived.Test.YtbpphlmakmeoaaaGreatDoorLexAll
import Derived.WalkKit
import Derived.WalkSpells
import Derived.WalkLawsBesides
import Derived.Deep.AppendLies
import Derived.OneCell
import Derived.Laws.EntriesVeiled
import Derived.Lib.OthersKept
import Derived.LoopTactic
import Derived.LoopN
import Derived.Deep.RegionLaw
import Derived.KernelRfl
import Derived.BigQuiet
import Derived.Deep.RegionWith
set_option maxRecDepth 100000
set_option maxHeartbeats 1600000
namespace Go.Proofs.YtbpphlmakmeoaaaGreatDoor
open Go.RowKit
theorem ec {p : Prop} (h : p) : Hid p := h
theorem gl {k : IntKind} {a b : Int} (h : a = b) : Ending.returned (.int k a) = .returned (.int k b) := by rw [h]
theorem fO {a b : Bool} (h : a = b) : Ending.returned (.bool a) = .returned (.bool b) := by rw [h]
theorem fx (c : Int) (w : World) : Calls Tryz.prog 230 #[.int .i32 c] w fun e w' => e = .returned (.int .i64 (cls c)) ∧ w' = w := by
 go_enter Tryz.func230, Tryz.ntmps230
 go_wp2
 all_goals go_ret
 all_goals refine ⟨gl ?_, rfl⟩
 all_goals simp_all [cls]
 all_goals omega
theorem o7 (s : ByteArray) (w : World) : Calls Tryz.prog 290 #[.string s] w fun e w' => e = .returned (.bool (gY s.toList)) ∧ w' = w := by
 go_enter Tryz.func290, Tryz.ntmps290
 go_wp2
 all_goals go_ret
 all_goals refine ⟨fO ?_, rfl⟩
 all_goals simp_all [gY, mx]
end Go.Proofs.YtbpphlmakmeoaaaGreatDoor

set_option maxRecDepth 100000
namespace Go.Proofs.YtbpphlmakmeoaaaGreatDoor
open Go.RowKit
def kh (l : List UInt8) : Value := .string ⟨l.toArray⟩
def hX (l : List fw) : List Value := l.flatMap fun t => [.int .i64 t.kind, kh t.text, .int .i64 t.place]
theorem ug (l : List fw) (t : fw) : hX (l ++ [t]) = hX l ++ [.int .i64 t.kind, kh t.text, .int .i64 t.place] := by simp [hX]
def cellsOf (B : Nat) (T : ByteArray) (S : St) (tv rv : Value) : Array Value :=
 #[.string T, .func (.func S.fn) #[.pointer (some ⟨B, 0, none⟩)] #[], .int .i64 S.frm, tv, rv, .int .i64 S.err, .int .i64 S.place]
def Sc (B : Nat) (T : ByteArray) (S : St) (w : World) : Prop :=
 B + 2 ≤ w.heap.size ∧ ∃ tv rv, w.heap[B]? = some (.cells (cellsOf B T S tv rv) 204 (0, 0)) ∧ w.ownsRow (B + 2) 188 3 tv S.tk.length (hX S.tk) ∧ w.ownsRow (B + 2) 9 1 rv S.rm.length (S.rm.map kh)
structure Fr (B : Nat) (w w' : World) : Prop where
 os : w'.os = w.os
 tape : w'.tape = w.tape
 output : w'.output = w.output
 size : w.heap.size ≤ w'.heap.size
 block : ∀ k, k < B + 2 → k ≠ B → w'.heap[k]? = w.heap[k]?
theorem Fr.refl (B : Nat) (w : World) : Fr B w w := ⟨rfl, rfl, rfl, Nat.le_refl _, fun _ _ _ => rfl⟩
theorem Fr.trans {B : Nat} {a b c : World} (h : Fr B a b) (k : Fr B b c) : Fr B a c :=
 ⟨k.os.trans h.os, k.tape.trans h.tape, k.output.trans h.output, Nat.le_trans h.size k.size, fun i hi hn => (k.block i hi hn).trans (h.block i hi hn)⟩
theorem Fr.set {B : Nat} {a w : World} (h : Fr B a w) (i : Nat) (v : Value) : Fr B a (w.setCell ⟨B, i, none⟩ v) :=
 ⟨h.os, h.tape, h.output, by simpa using h.size, fun k hk hn => (heap_setCell_other w ⟨B, i, none⟩ k v hn).trans (h.block k hk hn)⟩
theorem Fr.drew {B : Nat} {a w : World} (h : Fr B a w) : Fr B a w.drew := ⟨h.os, h.tape, h.output, h.size, h.block⟩
theorem Fr.of_below {B : Nat} {w w' : World} (hB : B + 2 ≤ w.heap.size) (h : Below w.heap.size w w') : Fr B w w' :=
 ⟨h.os, h.tape, h.output, h.size, fun k hk _ => h.block k (by omega)⟩
theorem Fr.grown {B : Nat} {w w' : World} {row : Option Nat} (hB : B + 2 ≤ w.heap.size) (h : w.grownBy w' row) (hr : ∀ k, row = some k → B + 2 ≤ k) : Fr B w w' :=
 ⟨h.os, h.tape, h.output, h.size, fun k hk _ => h.block k (by omega) fun e => by have := hr k e.symm; omega⟩
theorem Sc.drew {B : Nat} {T : ByteArray} {S : St} {w : World} (h : Sc B T S w) : Sc B T S w.drew := h
section
variable {B : Nat} {T : ByteArray} {S : St} {w : World}
theorem Sc.put (h : Sc B T S w) (S' : St) (i : Nat) (v : Value) (ht : S'.tk = S.tk) (hr : S'.rm = S.rm)
    (hv : ∀ tv rv, (cellsOf B T S tv rv).setIfInBounds i v = cellsOf B T S' tv rv) : Sc B T S' (w.setCell ⟨B, i, none⟩ v) := by
 obtain ⟨hs, tv, rv, hb, h1, h2⟩ := h
 refine ⟨by simpa using hs, tv, rv, ?_, ?_, ?_⟩
 · rw [heap_setCell_same w B i _ 204 v hb, hv]
 · rw [ht]; exact ownsRow_setCell_below h1 (by simp) v
 · rw [hr]; exact ownsRow_setCell_below h2 (by simp) v
theorem Sc.setFrm (h : Sc B T S w) (p : Nat) : Sc B T { S with frm := p } (w.setCell ⟨B, 2, none⟩ (.int .i64 p)) := h.put _ 2 _ rfl rfl fun _ _ => rfl
theorem Sc.setFn (h : Sc B T S w) (f : Nat) : Sc B T { S with fn := f } (w.setCell ⟨B, 1, none⟩ (.func (.func f) #[.pointer (some ⟨B, 0, none⟩)] #[])) := h.put _ 1 _ rfl rfl fun _ _ => rfl
theorem Sc.setErr (h : Sc B T S w) (e : Int) : Sc B T { S with err := e } (w.setCell ⟨B, 5, none⟩ (.int .i64 e)) := h.put _ 5 _ rfl rfl fun _ _ => rfl
theorem Sc.setPlace (h : Sc B T S w) (p : Nat) : Sc B T { S with place := p } (w.setCell ⟨B, 6, none⟩ (.int .i64 p)) := h.put _ 6 _ rfl rfl fun _ _ => rfl
theorem Sc.text (h : Sc B T S w) : w.cell? ⟨B, 0, none⟩ = some (.string T) := by
 obtain ⟨_, tv, rv, hb, _⟩ := h; rw [cell_of_row w B 0 _ 204 _ hb]; rfl
theorem Sc.fnc (h : Sc B T S w) : w.cell? ⟨B, 1, none⟩ = some (.func (.func S.fn) #[.pointer (some ⟨B, 0, none⟩)] #[]) := by
 obtain ⟨_, tv, rv, hb, _⟩ := h; rw [cell_of_row w B 1 _ 204 _ hb]; rfl
theorem Sc.frmc (h : Sc B T S w) : w.cell? ⟨B, 2, none⟩ = some (.int .i64 S.frm) := by
 obtain ⟨_, tv, rv, hb, _⟩ := h; rw [cell_of_row w B 2 _ 204 _ hb]; rfl
theorem Sc.errc (h : Sc B T S w) : w.cell? ⟨B, 5, none⟩ = some (.int .i64 S.err) := by
 obtain ⟨_, tv, rv, hb, _⟩ := h; rw [cell_of_row w B 5 _ 204 _ hb]; rfl
theorem Sc.placec (h : Sc B T S w) : w.cell? ⟨B, 6, none⟩ = some (.int .i64 S.place) := by
 obtain ⟨_, tv, rv, hb, _⟩ := h; rw [cell_of_row w B 6 _ 204 _ hb]; rfl
theorem Sc.frz (h : Sc B T S w) (i : Nat) : w.frozen? ⟨B, i, none⟩ = false := by
 obtain ⟨_, tv, rv, hb, _⟩ := h; simp [World.frozen?, hb]
theorem Sc.below {w1 : World} (h : Sc B T S w) (hb : Below w.heap.size w w1) : Sc B T S w1 := by
 obtain ⟨hs, tv, rv, hB, h1, h2⟩ := h
 have Ac : B < w.heap.size := by omega
 have ow : ∀ {e k n : Nat} {v : Value} {xs : List Value}, w.ownsRow (B + 2) e k v n xs → w1.ownsRow (B + 2) e k v n xs := fun {e k n v xs} ho => by
  refine ⟨ho.1, ?_⟩
  rcases ho.2 with h3 | ⟨g, Ab, Aa, h4, h5, h6, h7⟩
  · exact .inl h3
  · exact .inr ⟨g, Ab, Aa, h4, h5, (hb.block g (Array.getElem?_eq_some_iff.1 h6).1).trans h6, h7⟩
 exact ⟨Nat.le_trans hs hb.size, tv, rv, (hb.block B Ac).trans hB, ow h1, ow h2⟩
theorem Sc.lt (h : Sc B T S w) : B < w.heap.size := by have := h.1; omega
end
theorem lp (B : Nat) (T : ByteArray) (S : St) (e : Int) (p : Nat) (w : World) (h : Sc B T S w) :
    Calls Tryz.prog 239 #[.pointer (some ⟨B, 0, none⟩), .int .i64 e, .int .i64 p] w fun r w' => r = .returned (.tuple #[]) ∧ Sc B T { S with err := e, place := p } w' ∧ Fr B w w' := by
 have H := ec h
 have c5 := h.errc
 have c6 := h.placec
 have f5 := h.frz 5
 have f6 := h.frz 6
 clear h
 go_enter Tryz.func239, Tryz.ntmps239
 go_wp2
 go_end0
 exact ⟨rfl, (H.out.setErr e).setPlace p, ((Fr.refl B w).set _ _).set _ _⟩
end Go.Proofs.YtbpphlmakmeoaaaGreatDoor

set_option maxRecDepth 100000
set_option maxHeartbeats 4000000
namespace Go.Proofs.YtbpphlmakmeoaaaGreatDoor
open Go.RowKit
theorem nM (s : ByteArray) (k : Nat) (h : k < s.size) : s.data.toList.getD k 0 = s[k] := by
 rw [List.getD_eq_getElem?_getD, List.getElem?_eq_getElem (by simpa using h)]; rfl
theorem tO (s : ByteArray) (h : s.size < 10) : dateB s.data.toList = false := by
 have : s.data.toList.length = s.size := by simp
 simp only [dateB, this, Bool.and_eq_false_iff, decide_eq_false_iff_not]
 left; omega
theorem rU (s : ByteArray) (k : Nat) (hk : k < 10) (h : jx k (s.data.toList.getD k 0) = false) : dateB s.data.toList = false := by
 simp only [dateB, Bool.and_eq_false_iff]
 right
 rw [List.all_eq_false]
 exact ⟨k, by simpa using hk, by simp only [h]; simp⟩
theorem wj (s : ByteArray) (hs : 10 ≤ s.size) (h : ∀ j, j < 10 → jx j (s.data.toList.getD j 0) = true) : dateB s.data.toList = true := by
 have : s.data.toList.length = s.size := by simp
 simp only [dateB, this, Bool.and_eq_true, decide_eq_true_eq, List.all_eq_true, List.mem_range]
 exact ⟨hs, h⟩
def iO : ByteArray := ⟨#[48, 48, 48, 48, 45, 48, 48, 45, 48, 48]⟩
theorem xH (w : World) (k : Nat) (ty : TypeId) (h : k = 4 ∨ k = 7) : (Instr.next (.pointer (some ⟨w.heap.size, 0, none⟩)) true ty).run Tryz.prog (w.iter iO k) = .ok (.tuple #[.bool true, .int .i64 k, .int .i32 45]) (w.iter iO (k + 1)) := by
 rcases h with rfl | rfl
 · exact run_next_ascii w iO 4 ty (by decide) (by decide)
 · exact run_next_ascii w iO 7 ty (by decide) (by decide)
theorem vH (w : World) (k : Nat) (ty : TypeId) (hk : k < 10) (h : ¬ (k = 4 ∨ k = 7)) : (Instr.next (.pointer (some ⟨w.heap.size, 0, none⟩)) true ty).run Tryz.prog (w.iter iO k) = .ok (.tuple #[.bool true, .int .i64 k, .int .i32 48]) (w.iter iO (k + 1)) := by
 have : k = 0 ∨ k = 1 ∨ k = 2 ∨ k = 3 ∨ k = 5 ∨ k = 6 ∨ k = 8 ∨ k = 9 := by omega
 rcases this with rfl | rfl | rfl | rfl | rfl | rfl | rfl | rfl
 · exact run_next_ascii w iO 0 ty (by decide) (by decide)
 · exact run_next_ascii w iO 1 ty (by decide) (by decide)
 · exact run_next_ascii w iO 2 ty (by decide) (by decide)
 · exact run_next_ascii w iO 3 ty (by decide) (by decide)
 · exact run_next_ascii w iO 5 ty (by decide) (by decide)
 · exact run_next_ascii w iO 6 ty (by decide) (by decide)
 · exact run_next_ascii w iO 8 ty (by decide) (by decide)
 · exact run_next_ascii w iO 9 ty (by decide) (by decide)
theorem lc (w : World) (s : ByteArray) (p : Nat) : Below w.heap.size w (w.iter s p) :=
 ⟨rfl, rfl, rfl, by simp [World.iter], fun k hk => Go.heap_alloc_old w _ hk⟩
theorem ri (s : ByteArray) (w : World) : Calls Tryz.prog 234 #[.string s] w fun e w' => e = .returned (.bool (dateB s.data.toList)) ∧ Below w.heap.size w w' := by
 by_cases hl : s.size < 10
 · have HD := ec (tO s hl)
   go_enter Tryz.func234, Tryz.ntmps234
   go_wp2
   go_ret
   exact ⟨fO HD.out.symm, Below.refl _ _⟩
 · go_enter Tryz.func234, Tryz.ntmps234
   go_wp2
   go_loopw [3] (fun _ wr => ∃ k : Nat, k ≤ 10 ∧ wr = w.iter iO k ∧ Hid (∀ j, j < k → jx j (s.data.toList.getD j 0) = true)) (fun _ w' => 10 - w'.iterPos w.heap.size)
   case atStart => exact ⟨0, by omega, rfl, fun j hj => by omega⟩
   case round =>
    obtain ⟨k, hk, rfl, HK⟩ := hrel
    by_cases hkl : k < 10
    · have Ab : k < s.size := by omega
      have Ae : (s[k].toNat : Int) ≤ 255 := by have := s[k].toNat_lt; omega
      have HG := ec (nM s k Ab)
      have CC := ec (fx (s[k].toNat : Int) (w.iter iO (k + 1)))
      by_cases h47 : k = 4 ∨ k = 7
      · have Aa := fun ty => xH w k ty h47
        have HP : Hid (∀ c, jx k c = decide (c.toNat = 45)) := fun c => by simp [jx, h47]
        clear h47
        by_cases hd : (s[k].toNat : Int) = 45
        · have HN : Hid (∀ j, j < k + 1 → jx j (s.data.toList.getD j 0) = true) := fun j hj => by
           by_cases e : j = k
           · subst e; rw [HP.out, HG.out]; simp only [decide_eq_true_eq]; omega
           · exact HK.out j (by omega)
          go_wp2_with fail
          go_roundw
          case rel => exact ⟨k + 1, by omega, rfl, HN⟩
          case measure => simp; omega
        · have HN := ec (rU s k hkl (by rw [HP.out, HG.out]; simp only [decide_eq_false_iff_not]; omega))
          go_wp2_with fail
          go_ret
          exact ⟨fO HN.out.symm, lc _ _ _⟩
      · have Aa := fun ty => vH w k ty hkl h47
        have HP : Hid (∀ c, jx k c = fJ c) := fun c => by simp [jx, h47]
        clear h47
        have HC := ec (nF s[k])
        by_cases hd : cls (s[k].toNat : Int) = 5
        · have HN : Hid (∀ j, j < k + 1 → jx j (s.data.toList.getD j 0) = true) := fun j hj => by
           by_cases e : j = k
           · subst e; rw [HP.out, HG.out]; exact HC.out.1 hd
           · exact HK.out j (by omega)
          go_wp2_with fail
          refine CC.out.mono ?_
          rintro _ w1 ⟨rfl, Ac⟩
          subst w1
          go_wp2_with fail
          go_roundw
          case rel => exact ⟨k + 1, by omega, rfl, HN⟩
          case measure => simp; omega
        · have HN := ec (rU s k hkl (by rw [HP.out, HG.out]; cases hx : fJ s[k] with | false => rfl | true => exact absurd (HC.out.2 hx) hd))
          go_wp2_with fail
          refine CC.out.mono ?_
          rintro _ w1 ⟨rfl, Ac⟩
          subst w1
          go_wp2_with fail
          go_ret
          exact ⟨fO HN.out.symm, lc _ _ _⟩
    · have Ad : k = 10 := by omega
      subst Ad
      have Aa : ∀ ty, (Instr.next (.pointer (some ⟨w.heap.size, 0, none⟩)) true ty).run Tryz.prog (w.iter iO 10) = _ := fun ty => run_next_end w iO 10 ty (by decide)
      have HY := ec (wj s (by omega) HK.out)
      go_wp2_with fail
      go_ret
      exact ⟨fO HY.out.symm, lc _ _ _⟩
end Go.Proofs.YtbpphlmakmeoaaaGreatDoor

set_option maxRecDepth 100000
set_option maxHeartbeats 1600000
namespace Go.Proofs.YtbpphlmakmeoaaaGreatDoor
open Go.RowKit
theorem ua (s : ByteArray) (a : Nat) : (s.extract a s.size).data.toList = s.data.toList.drop a := by
 simp only [ByteArray.data_extract, Array.toList_extract, List.extract_eq_take_drop]
 exact List.take_of_length_le (by simp)
theorem xp (B : Nat) (T : ByteArray) (S : St) (i : Nat) (c : Int) (w : World) (h : Sc B T S w) (hc : cls c = 0) :
    Calls Tryz.prog 177 #[.pointer (some ⟨B, 0, none⟩), .int .i64 i, .int .i32 c] w fun r w' => r = .returned (.tuple #[]) ∧ Sc B T (eU T.data.toList S i c) w' ∧ Fr B w w' := by
 have H := ec h
 have H1 := ec (h.setFrm i)
 have F1 := ec ((Fr.refl B w).set 2 (.int .i64 i))
 have CC := ec (fx c (w.setCell ⟨B, 2, none⟩ (.int .i64 i)))
 rw [hc] at CC
 have c0 := h.text
 have c1 := h.fnc
 have c2 := h.frmc
 have f1 := h.frz 1
 have f2 := h.frz 2
 have HB : Hid (eU T.data.toList S i c = { S with frm := i, err := 41, place := i }) := by unfold Hid eU; rw [hc]; rfl
 clear h hc
 go_enter Tryz.func177, Tryz.ntmps177
 go_wp2_with fail
 refine CC.out.mono ?_
 rintro _ w1 ⟨rfl, Aa⟩
 subst w1
 have CF := ec (lp B T { S with frm := i } 41 i _ H1.out)
 go_wp2_with fail
 refine CF.out.mono ?_
 rintro _ w1 ⟨rfl, h1, h2⟩
 have HS := ec h1
 have HF := ec h2
 clear h1 h2
 go_wp2_with fail
 go_end0
 rw [HB.out]
 exact ⟨rfl, HS.out, F1.out.trans HF.out⟩
theorem xi (B : Nat) (T : ByteArray) (S : St) (i : Nat) (c : Int) (w : World) (h : Sc B T S w) (hc : cls c = 1) :
    Calls Tryz.prog 177 #[.pointer (some ⟨B, 0, none⟩), .int .i64 i, .int .i32 c] w fun r w' => r = .returned (.tuple #[]) ∧ Sc B T (eU T.data.toList S i c) w' ∧ Fr B w w' := by
 have H := ec h
 have H1 := ec (h.setFrm i)
 have F1 := ec ((Fr.refl B w).set 2 (.int .i64 i))
 have CC := ec (fx c (w.setCell ⟨B, 2, none⟩ (.int .i64 i)))
 rw [hc] at CC
 have c0 := h.text
 have c1 := h.fnc
 have c2 := h.frmc
 have f1 := h.frz 1
 have f2 := h.frz 2
 have HB : Hid (eU T.data.toList S i c = { S with frm := i }) := by unfold Hid eU; rw [hc]; rfl
 clear h hc
 go_enter Tryz.func177, Tryz.ntmps177
 go_wp2_with fail
 refine CC.out.mono ?_
 rintro _ w1 ⟨rfl, Aa⟩
 subst w1
 go_wp2_with fail
 go_end0
 rw [HB.out]
 exact ⟨rfl, H1.out, F1.out⟩
theorem xD (B : Nat) (T : ByteArray) (S : St) (i : Nat) (c : Int) (w : World) (h : Sc B T S w) (hc : cls c = 2) :
    Calls Tryz.prog 177 #[.pointer (some ⟨B, 0, none⟩), .int .i64 i, .int .i32 c] w fun r w' => r = .returned (.tuple #[]) ∧ Sc B T (eU T.data.toList S i c) w' ∧ Fr B w w' := by
 have H := ec h
 have H1 := ec (h.setFrm i)
 have F1 := ec ((Fr.refl B w).set 2 (.int .i64 i))
 have CC := ec (fx c (w.setCell ⟨B, 2, none⟩ (.int .i64 i)))
 rw [hc] at CC
 have c0 := h.text
 have c1 := h.fnc
 have c2 := h.frmc
 have f1 := h.frz 1
 have f2 := h.frz 2
 have HB : Hid (eU T.data.toList S i c = { S with frm := i }) := by unfold Hid eU; rw [hc]; rfl
 clear h hc
 go_enter Tryz.func177, Tryz.ntmps177
 go_wp2_with fail
 refine CC.out.mono ?_
 rintro _ w1 ⟨rfl, Aa⟩
 subst w1
 go_wp2_with fail
 go_end0
 rw [HB.out]
 exact ⟨rfl, H1.out, F1.out⟩
theorem wA (B : Nat) (T : ByteArray) (S : St) (i : Nat) (c : Int) (w : World) (h : Sc B T S w) (hc : cls c = 3) :
    Calls Tryz.prog 177 #[.pointer (some ⟨B, 0, none⟩), .int .i64 i, .int .i32 c] w fun r w' => r = .returned (.tuple #[]) ∧ Sc B T (eU T.data.toList S i c) w' ∧ Fr B w w' := by
 have H := ec h
 have H1 := ec (h.setFrm i)
 have F1 := ec ((Fr.refl B w).set 2 (.int .i64 i))
 have CC := ec (fx c (w.setCell ⟨B, 2, none⟩ (.int .i64 i)))
 rw [hc] at CC
 have c0 := h.text
 have c1 := h.fnc
 have c2 := h.frmc
 have f1 := h.frz 1
 have f2 := h.frz 2
 have HB : Hid (eU T.data.toList S i c = { S with frm := i, fn := 231 }) := by unfold Hid eU; rw [hc]; rfl
 clear h hc
 go_enter Tryz.func177, Tryz.ntmps177
 go_wp2_with fail
 refine CC.out.mono ?_
 rintro _ w1 ⟨rfl, Aa⟩
 subst w1
 go_wp2_with fail
 go_end0
 rw [HB.out]
 exact ⟨rfl, H1.out.setFn 231, F1.out.set _ _⟩
theorem wR (B : Nat) (T : ByteArray) (S : St) (i : Nat) (c : Int) (w : World) (h : Sc B T S w) (hc : cls c = 4) :
    Calls Tryz.prog 177 #[.pointer (some ⟨B, 0, none⟩), .int .i64 i, .int .i32 c] w fun r w' => r = .returned (.tuple #[]) ∧ Sc B T (eU T.data.toList S i c) w' ∧ Fr B w w' := by
 have H := ec h
 have H1 := ec (h.setFrm i)
 have F1 := ec ((Fr.refl B w).set 2 (.int .i64 i))
 have CC := ec (fx c (w.setCell ⟨B, 2, none⟩ (.int .i64 i)))
 rw [hc] at CC
 have c0 := h.text
 have c1 := h.fnc
 have c2 := h.frmc
 have f1 := h.frz 1
 have f2 := h.frz 2
 have HB : Hid (eU T.data.toList S i c = { S with frm := i, fn := 232 }) := by unfold Hid eU; rw [hc]; rfl
 clear h hc
 go_enter Tryz.func177, Tryz.ntmps177
 go_wp2_with fail
 refine CC.out.mono ?_
 rintro _ w1 ⟨rfl, Aa⟩
 subst w1
 go_wp2_with fail
 go_end0
 rw [HB.out]
 exact ⟨rfl, H1.out.setFn 232, F1.out.set _ _⟩
theorem xC (B : Nat) (T : ByteArray) (S : St) (i : Nat) (c : Int) (w : World) (h : Sc B T S w) (hc : cls c = 5) (hi : i ≤ T.size) :
    Calls Tryz.prog 177 #[.pointer (some ⟨B, 0, none⟩), .int .i64 i, .int .i32 c] w fun r w' => r = .returned (.tuple #[]) ∧ Sc B T (eU T.data.toList S i c) w' ∧ Fr B w w' := by
 have H := ec h
 have H1 := ec (h.setFrm i)
 have F1 := ec ((Fr.refl B w).set 2 (.int .i64 i))
 have CC := ec (fx c (w.setCell ⟨B, 2, none⟩ (.int .i64 i)))
 rw [hc] at CC
 have c0 := h.text
 have c1 := h.fnc
 have c2 := h.frmc
 have f1 := h.frz 1
 have f2 := h.frz 2
 have HB : Hid (eU T.data.toList S i c = { S with frm := i, fn := if dateB (T.data.toList.drop i) then 235 else 233 }) := by unfold Hid eU; rw [hc]; rfl
 clear h hc
 go_enter Tryz.func177, Tryz.ntmps177
 go_wp2_with fail
 refine CC.out.mono ?_
 rintro _ w1 ⟨rfl, Ab⟩
 subst w1
 have H2 := ec (H1.out.setFn 233)
 have F2 := ec (F1.out.set 1 (.func (.func 233) #[.pointer (some ⟨B, 0, none⟩)] #[]))
 have CD := ec (ri (T.extract i T.size) ((w.setCell ⟨B, 2, none⟩ (.int .i64 i)).setCell ⟨B, 1, none⟩ (.func (.func 233) #[.pointer (some ⟨B, 0, none⟩)] #[])))
 rw [ua] at CD
 go_wp2_with fail
 refine CD.out.mono ?_
 rintro _ w1 ⟨rfl, Aa⟩
 have H3 : Hid (Sc B T { S with frm := i, fn := 233 } w1) := H2.out.below Aa
 have F3 : Hid (Fr B w w1) := F2.out.trans (Fr.of_below H2.out.1 Aa)
 clear Aa
 have c1' := H3.out.fnc
 have f1' := H3.out.frz 1
 cases hd : dateB (T.data.toList.drop i) with
 | true =>
  go_wp2_with fail
  go_end0
  rw [HB.out, hd]
  exact ⟨rfl, H3.out.setFn 235, F3.out.set _ _⟩
 | false =>
  go_wp2_with fail
  go_end0
  rw [HB.out, hd]
  exact ⟨rfl, H3.out, F3.out⟩
theorem xv (B : Nat) (T : ByteArray) (S : St) (i : Nat) (c : Int) (w : World) (h : Sc B T S w) (hc : cls c = 6) :
    Calls Tryz.prog 177 #[.pointer (some ⟨B, 0, none⟩), .int .i64 i, .int .i32 c] w fun r w' => r = .returned (.tuple #[]) ∧ Sc B T (eU T.data.toList S i c) w' ∧ Fr B w w' := by
 have H := ec h
 have H1 := ec (h.setFrm i)
 have F1 := ec ((Fr.refl B w).set 2 (.int .i64 i))
 have CC := ec (fx c (w.setCell ⟨B, 2, none⟩ (.int .i64 i)))
 rw [hc] at CC
 have c0 := h.text
 have c1 := h.fnc
 have c2 := h.frmc
 have f1 := h.frz 1
 have f2 := h.frz 2
 have HB : Hid (eU T.data.toList S i c = { S with frm := i, err := 41, place := i }) := by unfold Hid eU; rw [hc]; rfl
 clear h hc
 go_enter Tryz.func177, Tryz.ntmps177
 go_wp2_with fail
 refine CC.out.mono ?_
 rintro _ w1 ⟨rfl, Aa⟩
 subst w1
 have CF := ec (lp B T { S with frm := i } 41 i _ H1.out)
 go_wp2_with fail
 refine CF.out.mono ?_
 rintro _ w1 ⟨rfl, h1, h2⟩
 have HS := ec h1
 have HF := ec h2
 clear h1 h2
 go_wp2_with fail
 go_end0
 rw [HB.out]
 exact ⟨rfl, HS.out, F1.out.trans HF.out⟩
theorem wS (B : Nat) (T : ByteArray) (S : St) (i : Nat) (c : Int) (w : World) (h : Sc B T S w) (hc : cls c = 7) :
    Calls Tryz.prog 177 #[.pointer (some ⟨B, 0, none⟩), .int .i64 i, .int .i32 c] w fun r w' => r = .returned (.tuple #[]) ∧ Sc B T (eU T.data.toList S i c) w' ∧ Fr B w w' := by
 have H := ec h
 have H1 := ec (h.setFrm i)
 have F1 := ec ((Fr.refl B w).set 2 (.int .i64 i))
 have CC := ec (fx c (w.setCell ⟨B, 2, none⟩ (.int .i64 i)))
 rw [hc] at CC
 have c0 := h.text
 have c1 := h.fnc
 have c2 := h.frmc
 have f1 := h.frz 1
 have f2 := h.frz 2
 have HB : Hid (eU T.data.toList S i c = { S with frm := i, fn := 236 }) := by unfold Hid eU; rw [hc]; rfl
 clear h hc
 go_enter Tryz.func177, Tryz.ntmps177
 go_wp2_with fail
 refine CC.out.mono ?_
 rintro _ w1 ⟨rfl, Aa⟩
 subst w1
 go_wp2_with fail
 go_end0
 rw [HB.out]
 exact ⟨rfl, H1.out.setFn 236, F1.out.set _ _⟩
theorem xT (B : Nat) (T : ByteArray) (S : St) (i : Nat) (c : Int) (w : World) (h : Sc B T S w) (hc : cls c = 8) :
    Calls Tryz.prog 177 #[.pointer (some ⟨B, 0, none⟩), .int .i64 i, .int .i32 c] w fun r w' => r = .returned (.tuple #[]) ∧ Sc B T (eU T.data.toList S i c) w' ∧ Fr B w w' := by
 have H := ec h
 have H1 := ec (h.setFrm i)
 have F1 := ec ((Fr.refl B w).set 2 (.int .i64 i))
 have CC := ec (fx c (w.setCell ⟨B, 2, none⟩ (.int .i64 i)))
 rw [hc] at CC
 have c0 := h.text
 have c1 := h.fnc
 have c2 := h.frmc
 have f1 := h.frz 1
 have f2 := h.frz 2
 have HB : Hid (eU T.data.toList S i c = { S with frm := i, fn := 237 }) := by unfold Hid eU; rw [hc]; rfl
 clear h hc
 go_enter Tryz.func177, Tryz.ntmps177
 go_wp2_with fail
 refine CC.out.mono ?_
 rintro _ w1 ⟨rfl, Aa⟩
 subst w1
 go_wp2_with fail
 go_end0
 rw [HB.out]
 exact ⟨rfl, H1.out.setFn 237, F1.out.set _ _⟩
theorem xj (B : Nat) (T : ByteArray) (S : St) (i : Nat) (c : Int) (w : World) (h : Sc B T S w) (hc : cls c = 9) :
    Calls Tryz.prog 177 #[.pointer (some ⟨B, 0, none⟩), .int .i64 i, .int .i32 c] w fun r w' => r = .returned (.tuple #[]) ∧ Sc B T (eU T.data.toList S i c) w' ∧ Fr B w w' := by
 have H := ec h
 have H1 := ec (h.setFrm i)
 have F1 := ec ((Fr.refl B w).set 2 (.int .i64 i))
 have CC := ec (fx c (w.setCell ⟨B, 2, none⟩ (.int .i64 i)))
 rw [hc] at CC
 have c0 := h.text
 have c1 := h.fnc
 have c2 := h.frmc
 have f1 := h.frz 1
 have f2 := h.frz 2
 have HB : Hid (eU T.data.toList S i c = { S with frm := i, fn := 238 }) := by unfold Hid eU; rw [hc]; rfl
 clear h hc
 go_enter Tryz.func177, Tryz.ntmps177
 go_wp2_with fail
 refine CC.out.mono ?_
 rintro _ w1 ⟨rfl, Aa⟩
 subst w1
 go_wp2_with fail
 go_end0
 rw [HB.out]
 exact ⟨rfl, H1.out.setFn 238, F1.out.set _ _⟩
theorem vr (B : Nat) (T : ByteArray) (S : St) (i : Nat) (c : Int) (w : World) (h : Sc B T S w) (hc : cls c = 10) :
    Calls Tryz.prog 177 #[.pointer (some ⟨B, 0, none⟩), .int .i64 i, .int .i32 c] w fun r w' => r = .returned (.tuple #[]) ∧ Sc B T (eU T.data.toList S i c) w' ∧ Fr B w w' := by
 have H := ec h
 have H1 := ec (h.setFrm i)
 have F1 := ec ((Fr.refl B w).set 2 (.int .i64 i))
 have CC := ec (fx c (w.setCell ⟨B, 2, none⟩ (.int .i64 i)))
 rw [hc] at CC
 have c0 := h.text
 have c1 := h.fnc
 have c2 := h.frmc
 have f1 := h.frz 1
 have f2 := h.frz 2
 have HB : Hid (eU T.data.toList S i c = { S with frm := i, fn := 238 }) := by unfold Hid eU; rw [hc]; rfl
 clear h hc
 go_enter Tryz.func177, Tryz.ntmps177
 go_wp2_with fail
 refine CC.out.mono ?_
 rintro _ w1 ⟨rfl, Aa⟩
 subst w1
 go_wp2_with fail
 go_end0
 rw [HB.out]
 exact ⟨rfl, H1.out.setFn 238, F1.out.set _ _⟩
theorem mD (B : Nat) (T : ByteArray) (S : St) (i : Nat) (c : Int) (w : World) (h : Sc B T S w) (hi : i ≤ T.size) :
    Calls Tryz.prog 177 #[.pointer (some ⟨B, 0, none⟩), .int .i64 i, .int .i32 c] w fun r w' => r = .returned (.tuple #[]) ∧ Sc B T (eU T.data.toList S i c) w' ∧ Fr B w w' := by
 rcases rt c with e | e | e | e | e | e | e | e | e | e | e
 · exact xp B T S i c w h e
 · exact xi B T S i c w h e
 · exact xD B T S i c w h e
 · exact wA B T S i c w h e
 · exact wR B T S i c w h e
 · exact xC B T S i c w h e hi
 · exact xv B T S i c w h e
 · exact wS B T S i c w h e
 · exact xT B T S i c w h e
 · exact xj B T S i c w h e
 · exact vr B T S i c w h e
end Go.Proofs.YtbpphlmakmeoaaaGreatDoor

set_option maxRecDepth 100000
set_option maxHeartbeats 1600000
namespace Go.Proofs.YtbpphlmakmeoaaaGreatDoor
open Go.RowKit
theorem zT : (Tryz.prog.info? 188).map (fun i => (i.zero, i.size, i.bytes)) = some (some (.agg #[.int .i64 0, .string ⟨#[]⟩, .int .i64 0]), 3, 32) := by kernel_rfl
theorem zV : (Tryz.prog.info? 9).map (fun i => (i.zero, i.size, i.bytes)) = some (some (.string ⟨#[]⟩), 1, 16) := by kernel_rfl
section
variable {B : Nat} {T : ByteArray} {S : St} {w w1 : World}
theorem Sc.tok {tv rv : Value} (hs : B + 2 ≤ w.heap.size) (hb : w.heap[B]? = some (.cells (cellsOf B T S tv rv) 204 (0, 0))) (ht : w.ownsRow (B + 2) 188 3 tv S.tk.length (hX S.tk)) (hr : w.ownsRow (B + 2) 9 1 rv S.rm.length (S.rm.map kh))
    (t : fw) {v : Value} (hown : w1.ownsRow (B + 2) 188 3 v (S.tk.length + 1) (hX S.tk ++ [.int .i64 t.kind, kh t.text, .int .i64 t.place])) (hg : w.grownBy w1 tv.ownBlock) :
    Sc B T { S with tk := S.tk ++ [t] } (w1.setCell ⟨B, 3, none⟩ v) ∧ Fr B w (w1.setCell ⟨B, 3, none⟩ v) := by
 have Ab : some B ≠ tv.ownBlock := fun e => by have := (ht.lt B e.symm).1; omega
 have Aa : w1.heap[B]? = some (.cells (cellsOf B T S tv rv) 204 (0, 0)) := (hg.block B (by omega) Ab).trans hb
 refine ⟨⟨by have := hg.size; simp; omega, v, rv, ?_, ?_, ?_⟩, (Fr.grown hs hg fun k hk => (ht.lt k hk).1).set _ _⟩
 · rw [heap_setCell_same w1 B 3 _ 204 v Aa]; rfl
 · refine ownsRow_setCell_below ?_ (by simp) _
   simp only [ug, List.length_append, List.length_cons, List.length_nil]
   exact hown
 · refine ownsRow_setCell_below (hr.kept hg ?_) (by simp) _
   cases hvb : rv.ownBlock with
   | none => exact .inl rfl
   | some z =>
    refine .inr ?_
    rcases hr.2 with ⟨rfl, _⟩ | ⟨g, Ad, Ac, rfl, _, hz, _⟩
    · cases hvb
    · intro e1
      rcases ht.2 with ⟨rfl, _⟩ | ⟨g', cap', cur', rfl, _, hz', _⟩
      · cases e1
      · cases hvb
        have : g' = g := by simpa [Value.ownBlock] using e1.symm
        subst this
        rw [hz] at hz'
        simp at hz'
theorem Sc.rem {tv rv : Value} (hs : B + 2 ≤ w.heap.size) (hb : w.heap[B]? = some (.cells (cellsOf B T S tv rv) 204 (0, 0))) (ht : w.ownsRow (B + 2) 188 3 tv S.tk.length (hX S.tk)) (hr : w.ownsRow (B + 2) 9 1 rv S.rm.length (S.rm.map kh))
    (t : List UInt8) {v : Value} (hown : w1.ownsRow (B + 2) 9 1 v (S.rm.length + 1) (S.rm.map kh ++ [kh t])) (hg : w.grownBy w1 rv.ownBlock) :
    Sc B T { S with rm := S.rm ++ [t] } (w1.setCell ⟨B, 4, none⟩ v) ∧ Fr B w (w1.setCell ⟨B, 4, none⟩ v) := by
 have Ab : some B ≠ rv.ownBlock := fun e => by have := (hr.lt B e.symm).1; omega
 have Aa : w1.heap[B]? = some (.cells (cellsOf B T S tv rv) 204 (0, 0)) := (hg.block B (by omega) Ab).trans hb
 refine ⟨⟨by have := hg.size; simp; omega, tv, v, ?_, ?_, ?_⟩, (Fr.grown hs hg fun k hk => (hr.lt k hk).1).set _ _⟩
 · rw [heap_setCell_same w1 B 4 _ 204 v Aa]; rfl
 · refine ownsRow_setCell_below (ht.kept hg ?_) (by simp) _
   cases hvb : tv.ownBlock with
   | none => exact .inl rfl
   | some z =>
    refine .inr ?_
    rcases ht.2 with ⟨rfl, _⟩ | ⟨g, Ad, Ac, rfl, _, hz, _⟩
    · cases hvb
    · intro e1
      rcases hr.2 with ⟨rfl, _⟩ | ⟨g', cap', cur', rfl, _, hz', _⟩
      · cases e1
      · cases hvb
        have : g' = g := by simpa [Value.ownBlock] using e1.symm
        subst this
        rw [hz] at hz'
        simp at hz'
 · refine ownsRow_setCell_below ?_ (by simp) _
   simp only [List.map_append, List.map_cons, List.map_nil, List.length_append, List.length_cons, List.length_nil]
   exact hown
end
theorem n7 (w : World) (o : Obj) (row : Option Nat) : w.grownBy (w.alloc o) row := ⟨rfl, rfl, rfl, by simp, fun k hk _ => Go.heap_alloc_old w _ hk⟩
theorem pI {w w1 : World} {row : Option Nat} (h : w.drew.grownBy w1 row) : w.grownBy w1 row := ⟨h.os, h.tape, h.output, h.size, h.block⟩
theorem rH (tb : ByteArray) : kh tb.data.toList = .string tb := by simp [kh]
theorem pJ (B : Nat) (T : ByteArray) (S : St) (kind : Nat) (tb : ByteArray) (w : World) (h : Sc B T S w) (hn : S.tk.length ≤ 1000000) :
    Calls Tryz.prog 289 #[.pointer (some ⟨B, 0, none⟩), .int .i64 kind, .string tb] w fun r w' => r = .returned (.tuple #[]) ∧ Sc B T { S with fn := 177, tk := S.tk ++ [⟨kind, tb.data.toList, S.frm⟩] } w' ∧ Fr B w w' := by
 obtain ⟨iT, Ah, Ae, Af, Ag⟩ := info_parts zT
 obtain ⟨hs, tv, rv, hb, ht, hr⟩ := id h
 have c1 : w.cell? ⟨B, 1, none⟩ = some _ := h.fnc
 have c2 : w.cell? ⟨B, 2, none⟩ = some (.int .i64 S.frm) := h.frmc
 have c3 : w.cell? ⟨B, 3, none⟩ = some tv := by rw [cell_of_row w B 3 _ 204 _ hb]; rfl
 have f1 := h.frz 1
 have f3 := h.frz 3
 have Ab := h.lt
 have Ac : some B ≠ tv.ownBlock := fun e => by have := (ht.lt B e.symm).1; omega
 have HB := ec hb
 have HT := ec ht
 have HR := ec hr
 clear h hb ht hr
 go_enter Tryz.func289, Tryz.ntmps289
 go_wp2_with fail
 go_region_law
  ((refine step_append_lies _ (by rfl) _ _ _ (by rfl) (B + 2) 188 iT _ 3 32 Tryz.underlying114 Ah Ae Af Ag rfl (by omega) tv S.tk.length (hX S.tk) (by rfl) ((HT.out.alloc _).drew)
      ⟨w.heap.size, 0, none⟩ 1 1 [.int .i64 kind, .string tb, .int .i64 S.frm] (by rfl) (by rfl) (World.news_of_block (cs := #[.int .i64 kind, .string tb, .int .i64 S.frm]) (t := 188) (fr := (0, 0)) (heap_alloc_new w _)) (by simp [Value.oneCell'])
      (by omega) (by unfold maxLen; omega) (by omega) (by simp; omega) (w.heap.size + 1) (by simp) ?_; intro gg Ak w1 Ad Aa Aj Ai; have f3' : w1.frozen? ⟨B, 3, none⟩ = false := (Aa.frozen_far ⟨B, 3, none⟩ (by simp; omega) Ac).trans ((World.frozen?_of_block (Go.heap_alloc_old w _ Ab)).trans f3); have c3' : w1.cell? ⟨B, 3, none⟩ = some tv := (Aa.cell_far ⟨B, 3, none⟩ (by simp; omega) Ac).trans ((World.cell?_of_block (Go.heap_alloc_old w _ Ab)).trans c3); have c1' : w1.cell? ⟨B, 1, none⟩ = _ := (Aa.cell_far ⟨B, 1, none⟩ (by simp; omega) Ac).trans ((World.cell?_of_block (Go.heap_alloc_old w _ Ab)).trans c1); have f1' : w1.frozen? ⟨B, 1, none⟩ = false := (Aa.frozen_far ⟨B, 1, none⟩ (by simp; omega) Ac).trans ((World.frozen?_of_block (Go.heap_alloc_old w _ Ab)).trans f1)))
 all_goals go_wp2
 all_goals go_end0
 all_goals
  have hg := (n7 w (.cells #[.int .i64 kind, .string tb, .int .i64 S.frm] 188) tv.ownBlock).trans (pI Aa)
  have hF := Sc.tok hs HB.out HT.out HR.out ⟨kind, tb.data.toList, S.frm⟩ (by simpa [rH] using Ad) hg
  exact ⟨rfl, hF.1.setFn 177, hF.2.set _ _⟩
theorem pV (B : Nat) (i : Nat) (c : Int) (w : World) (hc : ¬ cls c = 1) :
    Calls Tryz.prog 237 #[.pointer (some ⟨B, 0, none⟩), .int .i64 i, .int .i32 c] w fun r w' => r = .returned (.tuple #[]) ∧ w' = w := by
 have CC := ec (fx c w)
 go_enter Tryz.func237, Tryz.ntmps237
 go_wp2_with fail
 refine CC.out.mono ?_
 rintro _ w1 ⟨rfl, Aa⟩
 subst w1
 go_wp2_with fail
 go_end0
 exact ⟨rfl, rfl⟩
end Go.Proofs.YtbpphlmakmeoaaaGreatDoor

set_option maxRecDepth 100000
set_option maxHeartbeats 1600000
namespace Go.Proofs.YtbpphlmakmeoaaaGreatDoor
open Go.RowKit
theorem kA (T : ByteArray) (a b : Nat) : (T.extract a b).data.toList = sub T.data.toList a b := by
 simp only [ByteArray.data_extract, Array.toList_extract, List.extract_eq_take_drop]
 rfl
theorem jR (B : Nat) (T : ByteArray) (S : St) (kind i : Nat) (c : Int) (w : World) (h : Sc B T S w) (hn : S.tk.length ≤ 1000000) (hi : i ≤ T.size) (hf : S.frm ≤ i) :
    Calls Tryz.prog 288 #[.pointer (some ⟨B, 0, none⟩), .int .i64 kind, .int .i64 i, .int .i32 c] w fun r w' => r = .returned (.tuple #[]) ∧ Sc B T (hQ T.data.toList S kind i c) w' ∧ Fr B w w' := by
 have H := ec h
 have CC := ec (fx c w)
 have c0 := h.text
 have c2 := h.frmc
 by_cases hc : cls c = 3 ∨ cls c = 4 ∨ cls c = 5 ∨ cls c = 6
 · have CF := ec (lp B T S 41 i w h)
   have HA : Hid (hQ T.data.toList S kind i c = { S with err := 41, place := i }) := by unfold Hid hQ; rw [if_pos hc]
   rcases hc with hc | hc | hc | hc
   all_goals
    rw [hc] at CC
    clear h hc
    go_enter Tryz.func288, Tryz.ntmps288
    go_wp2_with fail
    refine CC.out.mono ?_
    rintro _ w1 ⟨rfl, Ab⟩
    subst w1
    go_wp2_with fail
    refine CF.out.mono ?_
    rintro _ w1 ⟨rfl, h1, h2⟩
    have HS := ec h1
    have HF := ec h2
    clear h1 h2
    go_wp2_with fail
    go_end0
    rw [HA.out]
    exact ⟨rfl, HS.out, HF.out⟩
 · have CA := ec (fun w' (h' : Sc B T S w') => pJ B T S kind (T.extract S.frm i) w' h' hn)
   have HA : Hid (hQ T.data.toList S kind i c = eU T.data.toList { S with fn := 177, tk := S.tk ++ [⟨kind, (T.extract S.frm i).data.toList, S.frm⟩] } i c) := by unfold Hid hQ; rw [if_neg hc, kA]
   obtain ⟨n3, n4, n5, n6⟩ : cls c ≠ 3 ∧ cls c ≠ 4 ∧ cls c ≠ 5 ∧ cls c ≠ 6 := by omega
   generalize cls c = k at CC n3 n4 n5 n6
   clear h hc
   have b1 : (S.frm : Int) ≤ (i : Int) := by omega
   have b2 : (i : Int) ≤ (T.size : Int) := by omega
   go_enter Tryz.func288, Tryz.ntmps288
   go_wp2_with fail
   refine CC.out.mono ?_
   rintro _ w1 ⟨rfl, Ab⟩
   subst w1
   go_wp2_with fail
   go_region_with (go_at_call 289; refine (CA.out w.drew H.out.drew).mono ?_; rintro _ w1 ⟨rfl, h1, h2⟩)
   all_goals
    have HS := ec h1
    have HF := ec h2
    clear h1 h2
    have CB := ec (mD B T _ i c w1 HS.out hi)
    go_wp2_with fail
    refine CB.out.mono ?_
    rintro _ w2 ⟨rfl, h1, h2⟩
    have Aa := ec h1
    have Ac := ec h2
    clear h1 h2
    go_wp2_with fail
    go_end0
    rw [HA.out]
    exact ⟨rfl, Aa.out, ((Fr.refl B w).drew.trans HF.out).trans Ac.out⟩
theorem pD (B : Nat) (T : ByteArray) (S : St) (kind i : Nat) (c : Int) (w : World) (h : Sc B T S w) (hn : S.tk.length ≤ 1000000) (hT : T.size ≤ 1000000) (hi : i ≤ T.size) (hf : S.frm ≤ i) :
    Calls Tryz.prog 286 #[.pointer (some ⟨B, 0, none⟩), .int .i64 kind, .int .i64 i, .int .i32 c] w fun r w' => r = .returned (.tuple #[]) ∧ Sc B T (jL T.data.toList S kind i c) w' ∧ Fr B w w' := by
 have c2 := h.frmc
 by_cases hl : 32 < i - S.frm
 · have HA : Hid (jL T.data.toList S kind i c = { S with err := 5, place := S.frm }) := by unfold Hid jL; rw [if_pos hl]
   have hl' : 32 < (i : Int) - (S.frm : Int) := by omega
   have CF := ec (lp B T S 5 S.frm w h)
   clear h
   go_enter Tryz.func286, Tryz.ntmps286
   go_wp2_with fail
   refine CF.out.mono ?_
   rintro _ w1 ⟨rfl, h1, h2⟩
   have HS := ec h1
   have HF := ec h2
   clear h1 h2
   go_wp2_with fail
   refine bodyPost_ret (results_none rfl _ _ _) rfl ?_
   rw [HA.out]
   exact ⟨rfl, HS.out, HF.out⟩
 · have HA : Hid (jL T.data.toList S kind i c = hQ T.data.toList S kind i c) := by unfold Hid jL; rw [if_neg hl]
   have hl' : ¬ 32 < (i : Int) - (S.frm : Int) := by omega
   have CF := ec (jR B T S kind i c w h hn hi hf)
   clear h
   go_enter Tryz.func286, Tryz.ntmps286
   go_wp2_with fail
   refine CF.out.mono ?_
   rintro _ w1 ⟨rfl, h1, h2⟩
   have HS := ec h1
   have HF := ec h2
   clear h1 h2
   go_wp2_with fail
   go_end0
   rw [HA.out]
   exact ⟨rfl, HS.out, HF.out⟩
end Go.Proofs.YtbpphlmakmeoaaaGreatDoor

set_option maxRecDepth 100000
set_option maxHeartbeats 4000000
namespace Go.Proofs.YtbpphlmakmeoaaaGreatDoor
open Go.RowKit
theorem tB (B : Nat) (T : ByteArray) (S : St) (i : Nat) (c : Int) (w : World) (h : Sc B T S w) (hn : S.rm.length ≤ 1000000) (hc : cls c = 1) (hT : T.size ≤ 1000000) (hi : i ≤ T.size) (hf : S.frm + 1 ≤ i) :
    Calls Tryz.prog 237 #[.pointer (some ⟨B, 0, none⟩), .int .i64 i, .int .i32 c] w fun r w' => r = .returned (.tuple #[]) ∧ Sc B T { S with fn := 177, rm := S.rm ++ [(T.extract (S.frm + 1) i).data.toList] } w' ∧ Fr B w w' := by
 obtain ⟨iT, Ah, Ae, Af, Ag⟩ := info_parts zV
 obtain ⟨hs, tv, rv, hb, ht, hr⟩ := id h
 have CC := ec (fx c w)
 have c0 := h.text
 have c1 : w.cell? ⟨B, 1, none⟩ = some _ := h.fnc
 have c2 : w.cell? ⟨B, 2, none⟩ = some (.int .i64 S.frm) := h.frmc
 have c4 : w.cell? ⟨B, 4, none⟩ = some rv := by rw [cell_of_row w B 4 _ 204 _ hb]; rfl
 have f1 := h.frz 1
 have f4 := h.frz 4
 have Ab := h.lt
 have Ac : some B ≠ rv.ownBlock := fun e => by have := (hr.lt B e.symm).1; omega
 have HB := ec hb
 have HT := ec ht
 have HR := ec hr
 have wr : IntKind.i64.wrap ((S.frm : Int) + 1) = (S.frm : Int) + 1 := by rw [IntKind.wrap_i64]; omega
 have b0 : (0 : Int) ≤ (S.frm : Int) + 1 := by omega
 have b1 : (S.frm : Int) + 1 ≤ (i : Int) := by omega
 have b2 : (i : Int) ≤ (T.size : Int) := by omega
 clear h hb ht hr
 go_enter Tryz.func237, Tryz.ntmps237
 go_wp2_with fail
 refine CC.out.mono ?_
 rintro _ w1 ⟨rfl, Al⟩
 subst w1
 go_wp2_with fail
 go_region_law
  ((refine step_append_lies _ (by rfl) _ _ _ (by rfl) (B + 2) 9 iT _ 1 16 Tryz.underlying22 Ah Ae Af Ag rfl (by omega) rv S.rm.length (S.rm.map kh) (by rfl) ((HR.out.alloc _).drew)
      ⟨w.heap.size, 0, none⟩ 1 1 [.string (T.extract (S.frm + 1) i)] (by rfl) (by rfl) (World.news_of_block (cs := #[.string (T.extract (S.frm + 1) i)]) (t := 9) (fr := (0, 0)) (heap_alloc_new w _)) (by simp [Value.oneCell'])
      (by omega) (by unfold maxLen; omega) (by omega) (by simp; omega) (w.heap.size + 1) (by simp) ?_; intro gg Ak w1 Ad Aa Aj Ai; have f4' : w1.frozen? ⟨B, 4, none⟩ = false := (Aa.frozen_far ⟨B, 4, none⟩ (by simp; omega) Ac).trans ((World.frozen?_of_block (Go.heap_alloc_old w _ Ab)).trans f4); have c4' : w1.cell? ⟨B, 4, none⟩ = some rv := (Aa.cell_far ⟨B, 4, none⟩ (by simp; omega) Ac).trans ((World.cell?_of_block (Go.heap_alloc_old w _ Ab)).trans c4); have c1' : w1.cell? ⟨B, 1, none⟩ = _ := (Aa.cell_far ⟨B, 1, none⟩ (by simp; omega) Ac).trans ((World.cell?_of_block (Go.heap_alloc_old w _ Ab)).trans c1); have f1' : w1.frozen? ⟨B, 1, none⟩ = false := (Aa.frozen_far ⟨B, 1, none⟩ (by simp; omega) Ac).trans ((World.frozen?_of_block (Go.heap_alloc_old w _ Ab)).trans f1)))
 all_goals go_wp2
 all_goals go_end0
 all_goals
  have hg := (n7 w (.cells #[.string (T.extract (S.frm + 1) i)] 9) rv.ownBlock).trans (pI Aa)
  have hF := Sc.rem hs HB.out HT.out HR.out (T.extract (S.frm + 1) i).data.toList (by rw [rH]; exact Ad) hg
  exact ⟨rfl, hF.1.setFn 177, hF.2.set _ _⟩
end Go.Proofs.YtbpphlmakmeoaaaGreatDoor

set_option maxRecDepth 100000
set_option maxHeartbeats 1600000
namespace Go.Proofs.YtbpphlmakmeoaaaGreatDoor
open Go.RowKit
theorem wE (B : Nat) (T : ByteArray) (S : St) (i : Nat) (c : Int) (w : World) (h : Sc B T S w) (hn : S.tk.length ≤ 1000000) (hT : T.size ≤ 1000000) (hi : i < T.size) (hf : S.frm ≤ i) :
    Calls Tryz.prog 231 #[.pointer (some ⟨B, 0, none⟩), .int .i64 i, .int .i32 c] w fun r w' => r = .returned (.tuple #[]) ∧ Sc B T (li T.data.toList S i c) w' ∧ Fr B w w' := by
 have H := ec h
 have CC := ec (fx c w)
 by_cases hc : cls c = 3 ∨ cls c = 5 ∨ cls c = 6
 · have HA : Hid (li T.data.toList S i c = S) := by unfold Hid li; rw [if_pos hc]
   clear h
   rcases hc with hc | hc | hc
   all_goals
    rw [hc] at CC
    clear hc
    go_enter Tryz.func231, Tryz.ntmps231
    go_wp2_with fail
    refine CC.out.mono ?_
    rintro _ w1 ⟨rfl, Aa⟩
    subst w1
    go_wp2_with fail
    go_end0
    rw [HA.out]
    exact ⟨rfl, H.out, Fr.refl B w⟩
 · have HA : Hid (li T.data.toList S i c = jL T.data.toList S 1 i c) := by unfold Hid li; rw [if_neg hc]
   have CF := ec (pD B T S 1 i c w h hn hT (by omega) hf)
   obtain ⟨n3, n5, n6⟩ : cls c ≠ 3 ∧ cls c ≠ 5 ∧ cls c ≠ 6 := by omega
   generalize cls c = k at CC n3 n5 n6
   clear h hc
   go_enter Tryz.func231, Tryz.ntmps231
   go_wp2_with fail
   refine CC.out.mono ?_
   rintro _ w1 ⟨rfl, Aa⟩
   subst w1
   go_wp2_with fail
   refine CF.out.mono ?_
   rintro _ w1 ⟨rfl, h1, h2⟩
   have HS := ec h1
   have HF := ec h2
   clear h1 h2
   go_wp2_with fail
   go_end0
   rw [HA.out]
   exact ⟨rfl, HS.out, HF.out⟩
theorem ym (B : Nat) (T : ByteArray) (S : St) (i : Nat) (c : Int) (w : World) (h : Sc B T S w) (hn : S.tk.length ≤ 1000000) (hT : T.size ≤ 1000000) (hi : i < T.size) (hf : S.frm ≤ i) :
    Calls Tryz.prog 232 #[.pointer (some ⟨B, 0, none⟩), .int .i64 i, .int .i32 c] w fun r w' => r = .returned (.tuple #[]) ∧ Sc B T (mP T.data.toList S i c) w' ∧ Fr B w w' := by
 have H := ec h
 have CC := ec (fx c w)
 by_cases hc : cls c = 3 ∨ cls c = 4 ∨ cls c = 5 ∨ cls c = 6
 · have HA : Hid (mP T.data.toList S i c = S) := by unfold Hid mP; rw [if_pos hc]
   clear h
   rcases hc with hc | hc | hc | hc
   all_goals
    rw [hc] at CC
    clear hc
    go_enter Tryz.func232, Tryz.ntmps232
    go_wp2_with fail
    refine CC.out.mono ?_
    rintro _ w1 ⟨rfl, Aa⟩
    subst w1
    go_wp2_with fail
    go_end0
    rw [HA.out]
    exact ⟨rfl, H.out, Fr.refl B w⟩
 · have HA : Hid (mP T.data.toList S i c = jL T.data.toList S 2 i c) := by unfold Hid mP; rw [if_neg hc]
   have CF := ec (pD B T S 2 i c w h hn hT (by omega) hf)
   obtain ⟨n3, n4, n5, n6⟩ : cls c ≠ 3 ∧ cls c ≠ 4 ∧ cls c ≠ 5 ∧ cls c ≠ 6 := by omega
   generalize cls c = k at CC n3 n4 n5 n6
   clear h hc
   go_enter Tryz.func232, Tryz.ntmps232
   go_wp2_with fail
   refine CC.out.mono ?_
   rintro _ w1 ⟨rfl, Aa⟩
   subst w1
   go_wp2_with fail
   refine CF.out.mono ?_
   rintro _ w1 ⟨rfl, h1, h2⟩
   have HS := ec h1
   have HF := ec h2
   clear h1 h2
   go_wp2_with fail
   go_end0
   rw [HA.out]
   exact ⟨rfl, HS.out, HF.out⟩
theorem sb (B : Nat) (T : ByteArray) (S : St) (i : Nat) (c : Int) (w : World) (h : Sc B T S w) (hn : S.tk.length ≤ 1000000) (hi : i < T.size) (hf : S.frm ≤ i) :
    Calls Tryz.prog 287 #[.pointer (some ⟨B, 0, none⟩), .int .i64 i, .int .i32 c] w fun r w' => r = .returned (.tuple #[]) ∧ Sc B T (i1 T.data.toList S i c) w' ∧ Fr B w w' := by
 have H := ec h
 have CC := ec (fx c w)
 by_cases hc : cls c = 5
 · have HA : Hid (i1 T.data.toList S i c = S) := by unfold Hid i1; rw [if_pos hc]
   clear h
   rw [hc] at CC
   clear hc
   go_enter Tryz.func287, Tryz.ntmps287
   go_wp2_with fail
   refine CC.out.mono ?_
   rintro _ w1 ⟨rfl, Aa⟩
   subst w1
   go_wp2_with fail
   go_end0
   rw [HA.out]
   exact ⟨rfl, H.out, Fr.refl B w⟩
 · have HA : Hid (i1 T.data.toList S i c = hQ T.data.toList S 3 i c) := by unfold Hid i1; rw [if_neg hc]
   have CF := ec (jR B T S 3 i c w h hn (by omega) hf)
   generalize cls c = k at CC hc
   clear h
   go_enter Tryz.func287, Tryz.ntmps287
   go_wp2_with fail
   refine CC.out.mono ?_
   rintro _ w1 ⟨rfl, Aa⟩
   subst w1
   go_wp2_with fail
   refine CF.out.mono ?_
   rintro _ w1 ⟨rfl, h1, h2⟩
   have HS := ec h1
   have HF := ec h2
   clear h1 h2
   go_wp2_with fail
   go_end0
   rw [HA.out]
   exact ⟨rfl, HS.out, HF.out⟩
theorem xR (B : Nat) (T : ByteArray) (S : St) (i : Nat) (c : Int) (w : World) (h : Sc B T S w) (hn : S.tk.length ≤ 1000000) (hT : T.size ≤ 1000000) (hi : i < T.size) (hf : S.frm ≤ i) :
    Calls Tryz.prog 235 #[.pointer (some ⟨B, 0, none⟩), .int .i64 i, .int .i32 c] w fun r w' => r = .returned (.tuple #[]) ∧ Sc B T (ld T.data.toList S i c) w' ∧ Fr B w w' := by
 have H := ec h
 have c2 := h.frmc
 by_cases hc : i = S.frm + 10
 · have HA : Hid (ld T.data.toList S i c = hQ T.data.toList S 4 i c) := by unfold Hid ld; rw [if_pos hc]
   have CF := ec (jR B T S 4 i c w h hn (by omega) hf)
   have Ab : (i : Int) ≤ (S.frm : Int) + 10 := by omega
   have Aa : (S.frm : Int) + 10 ≤ (i : Int) := by omega
   clear h hc
   go_enter Tryz.func235, Tryz.ntmps235
   go_wp2_with fail
   refine CF.out.mono ?_
   rintro _ w1 ⟨rfl, h1, h2⟩
   have HS := ec h1
   have HF := ec h2
   clear h1 h2
   go_wp2_with fail
   go_end0
   rw [HA.out]
   exact ⟨rfl, HS.out, HF.out⟩
 · have HA : Hid (ld T.data.toList S i c = S) := by unfold Hid ld; rw [if_neg hc]
   have hc' : ¬ (i : Int) = (S.frm : Int) + 10 := by omega
   clear h hc
   go_enter Tryz.func235, Tryz.ntmps235
   go_wp2_with fail
   go_end0
   rw [HA.out]
   exact ⟨rfl, H.out, Fr.refl B w⟩
theorem tP (B : Nat) (T : ByteArray) (S : St) (i : Nat) (c : Int) (w : World) (h : Sc B T S w) (hn : S.tk.length ≤ 1000000) (hT : T.size ≤ 1000000) (hi : i < T.size) (hf : S.frm ≤ i) (hd : cls c = 9 → i + 1 < T.size) :
    Calls Tryz.prog 233 #[.pointer (some ⟨B, 0, none⟩), .int .i64 i, .int .i32 c] w fun r w' => r = .returned (.tuple #[]) ∧ Sc B T (ir T.data.toList S i c) w' ∧ Fr B w w' := by
 have H := ec h
 have CC := ec (fx c w)
 have c0 := h.text
 have c1 := h.fnc
 have f1 := h.frz 1
 by_cases hc : cls c = 5
 · have HA : Hid (ir T.data.toList S i c = S) := by unfold Hid ir; rw [if_pos hc]
   clear h hd
   rw [hc] at CC
   clear hc
   go_enter Tryz.func233, Tryz.ntmps233
   go_wp2_with fail
   refine CC.out.mono ?_
   rintro _ w1 ⟨rfl, Aa⟩
   subst w1
   go_wp2_with fail
   go_end0
   rw [HA.out]
   exact ⟨rfl, H.out, Fr.refl B w⟩
 · by_cases hp : cls c = 9
   · have Ab : i + 1 < T.size := hd hp
     have Ad : (i : Int) + 1 < (T.size : Int) := by omega
     have Ac : (T[i + 1].toNat : Int) ≤ 255 := by have := T[i + 1].toNat_lt; omega
     have C2 := ec (fx (T[i + 1].toNat : Int) w)
     have HD := ec (nF T[i + 1])
     have HG := ec (nM T (i + 1) Ab)
     by_cases h5 : cls (T[i + 1].toNat : Int) = 5
     · have HA : Hid (ir T.data.toList S i c = { S with fn := 287 }) := by unfold Hid ir; rw [if_neg hc, if_pos ⟨hp, by rw [HG.out]; exact HD.out.1 h5⟩]
       rw [hp] at CC
       rw [h5] at C2
       clear h hd hc hp h5
       go_enter Tryz.func233, Tryz.ntmps233
       go_wp2_with fail
       refine CC.out.mono ?_
       rintro _ w1 ⟨rfl, Aa⟩
       subst w1
       go_wp2_with fail
       refine CC.out.mono ?_
       rintro _ w1 ⟨rfl, Aa⟩
       subst w1
       go_wp2_with fail
       refine C2.out.mono ?_
       rintro _ w1 ⟨rfl, Aa⟩
       subst w1
       go_wp2_with fail
       go_end0
       rw [HA.out]
       exact ⟨rfl, H.out.setFn 287, (Fr.refl B w).set _ _⟩
     · have HA : Hid (ir T.data.toList S i c = hQ T.data.toList S 3 i c) := by
        unfold Hid ir
        rw [if_neg hc, if_neg (fun h => h5 (HD.out.2 (by rw [← HG.out]; exact h.2)))]
       have CF := ec (jR B T S 3 i c w h hn (by omega) hf)
       rw [hp] at CC
       clear HD
       generalize cls (T[i + 1].toNat : Int) = k at C2 h5
       clear h hd hc hp
       go_enter Tryz.func233, Tryz.ntmps233
       go_wp2_with fail
       refine CC.out.mono ?_
       rintro _ w1 ⟨rfl, Aa⟩
       subst w1
       go_wp2_with fail
       refine CC.out.mono ?_
       rintro _ w1 ⟨rfl, Aa⟩
       subst w1
       go_wp2_with fail
       refine C2.out.mono ?_
       rintro _ w1 ⟨rfl, Aa⟩
       subst w1
       go_wp2_with fail
       refine CF.out.mono ?_
       rintro _ w1 ⟨rfl, h1, h2⟩
       have HS := ec h1
       have HF := ec h2
       clear h1 h2
       go_wp2_with fail
       go_end0
       rw [HA.out]
       exact ⟨rfl, HS.out, HF.out⟩
   · have HA : Hid (ir T.data.toList S i c = hQ T.data.toList S 3 i c) := by unfold Hid ir; rw [if_neg hc, if_neg (fun h => hp h.1)]
     have CF := ec (jR B T S 3 i c w h hn (by omega) hf)
     generalize cls c = k at CC hc hp
     clear h hd
     go_enter Tryz.func233, Tryz.ntmps233
     go_wp2_with fail
     refine CC.out.mono ?_
     rintro _ w1 ⟨rfl, Aa⟩
     subst w1
     go_wp2_with fail
     refine CC.out.mono ?_
     rintro _ w1 ⟨rfl, Aa⟩
     subst w1
     go_wp2_with fail
     refine CF.out.mono ?_
     rintro _ w1 ⟨rfl, h1, h2⟩
     have HS := ec h1
     have HF := ec h2
     clear h1 h2
     go_wp2_with fail
     go_end0
     rw [HA.out]
     exact ⟨rfl, HS.out, HF.out⟩
end Go.Proofs.YtbpphlmakmeoaaaGreatDoor

set_option maxRecDepth 100000
set_option maxHeartbeats 3200000
namespace Go.Proofs.YtbpphlmakmeoaaaGreatDoor
open Go.RowKit
theorem tY (B : Nat) (T : ByteArray) (S : St) (i : Nat) (c : Int) (w : World) (h : Sc B T S w) (hn : S.rm.length ≤ 1000000) (hT : T.size ≤ 1000000) (hi : i < T.size) (hf : S.frm + 1 ≤ i) :
    Calls Tryz.prog 237 #[.pointer (some ⟨B, 0, none⟩), .int .i64 i, .int .i32 c] w fun r w' => r = .returned (.tuple #[]) ∧ Sc B T (jO T.data.toList S i c) w' ∧ Fr B w w' := by
 by_cases hc : cls c = 1
 · have HA : jO T.data.toList S i c = { S with fn := 177, rm := S.rm ++ [sub T.data.toList (S.frm + 1) i] } := by unfold jO; rw [if_pos hc]
   rw [HA, ← kA]
   exact tB B T S i c w h hn hc hT (by omega) hf
 · have HA : jO T.data.toList S i c = S := by unfold jO; rw [if_neg hc]
   rw [HA]
   refine (pV B i c w hc).mono ?_
   rintro _ w1 ⟨rfl, rfl⟩
   exact ⟨rfl, h, Fr.refl _ _⟩
theorem uQ (B : Nat) (T : ByteArray) (S : St) (i : Nat) (c : Int) (w : World) (h : Sc B T S w) (hn : S.tk.length ≤ 1000000) (hT : T.size ≤ 1000000) (hi : i < T.size) (hf : S.frm + 1 ≤ i) :
    Calls Tryz.prog 236 #[.pointer (some ⟨B, 0, none⟩), .int .i64 i, .int .i32 c] w fun r w' => r = .returned (.tuple #[]) ∧ Sc B T (jg T.data.toList S i c) w' ∧ Fr B w w' := by
 have H := ec h
 have CC := ec (fx c w)
 have c0 := h.text
 have c2 := h.frmc
 by_cases h7 : cls c = 7
 · have HA : Hid (jg T.data.toList S i c = { S with fn := 177, tk := S.tk ++ [⟨5, (T.extract (S.frm + 1) i).data.toList, S.frm⟩] }) := by unfold Hid jg; rw [if_pos h7, kA]
   have CA := ec (fun w' (h' : Sc B T S w') => pJ B T S 5 (T.extract (S.frm + 1) i) w' h' hn)
   have wr : IntKind.i64.wrap ((S.frm : Int) + 1) = (S.frm : Int) + 1 := by rw [IntKind.wrap_i64]; omega
   have b0 : (0 : Int) ≤ (S.frm : Int) + 1 := by omega
   have b1 : (S.frm : Int) + 1 ≤ (i : Int) := by omega
   have b2 : (i : Int) ≤ (T.size : Int) := by omega
   rw [h7] at CC
   clear h h7
   go_enter Tryz.func236, Tryz.ntmps236
   go_wp2_with fail
   refine CC.out.mono ?_
   rintro _ w1 ⟨rfl, Aa⟩
   subst w1
   go_wp2_with fail
   go_region_with (go_at_call 289; refine (CA.out w.drew H.out.drew).mono ?_; rintro _ w1 ⟨rfl, h1, h2⟩)
   all_goals
    have HS := ec h1
    have HF := ec h2
    clear h1 h2
    go_wp2_with fail
    go_end0
    rw [HA.out]
    exact ⟨rfl, HS.out, (Fr.refl B w).drew.trans HF.out⟩
 · by_cases h1 : cls c = 1
   · have HA : Hid (jg T.data.toList S i c = { S with err := 42, place := S.frm }) := by unfold Hid jg; rw [if_neg h7, if_pos h1]
     have CF := ec (lp B T S 42 S.frm w h)
     rw [h1] at CC
     clear h h7 h1
     go_enter Tryz.func236, Tryz.ntmps236
     go_wp2_with fail
     refine CC.out.mono ?_
     rintro _ w1 ⟨rfl, Aa⟩
     subst w1
     go_wp2_with fail
     refine CF.out.mono ?_
     rintro _ w1 ⟨rfl, h1, h2⟩
     have HS := ec h1
     have HF := ec h2
     clear h1 h2
     go_wp2_with fail
     go_end0
     rw [HA.out]
     exact ⟨rfl, HS.out, HF.out⟩
   · have HA : Hid (jg T.data.toList S i c = S) := by unfold Hid jg; rw [if_neg h7, if_neg h1]
     generalize cls c = k at CC h7 h1
     clear h
     go_enter Tryz.func236, Tryz.ntmps236
     go_wp2_with fail
     refine CC.out.mono ?_
     rintro _ w1 ⟨rfl, Aa⟩
     subst w1
     go_wp2_with fail
     go_end0
     rw [HA.out]
     exact ⟨rfl, H.out, Fr.refl B w⟩
theorem eJ (w : World) (n : Nat) : Below w.heap.size w (w.drewN n) := ⟨rfl, rfl, rfl, Nat.le_refl _, fun _ _ => rfl⟩
theorem wM (B : Nat) (T : ByteArray) (S : St) (i : Nat) (c : Int) (w : World) (h : Sc B T S w) (hn : S.tk.length ≤ 1000000) (hT : T.size ≤ 1000000) (hi : i < T.size) (hf : S.frm ≤ i) :
    Calls Tryz.prog 238 #[.pointer (some ⟨B, 0, none⟩), .int .i64 i, .int .i32 c] w fun r w' => r = .returned (.tuple #[]) ∧ Sc B T (lb T.data.toList S i c) w' ∧ Fr B w w' := by
 have H := ec h
 have M2 := ec (o7 (T.extract S.frm (i + 1)))
 have M1 := ec (o7 (T.extract S.frm i))
 rw [ByteArray.toList_eq, kA] at M1 M2
 have c0 := h.text
 have c2 := h.frmc
 have wr : IntKind.i64.wrap ((i : Int) + 1) = (i : Int) + 1 := by rw [IntKind.wrap_i64]; omega
 have b0 : (0 : Int) ≤ (i : Int) + 1 := by omega
 have b1 : (S.frm : Int) ≤ (i : Int) := by omega
 have b2 : (i : Int) ≤ (T.size : Int) := by omega
 have b3 : (S.frm : Int) ≤ (i : Int) + 1 := by omega
 have b4 : (i : Int) + 1 ≤ (T.size : Int) := by omega
 have HA : Hid (lb T.data.toList S i c = _) := ec (by unfold lb; rfl)
 cases h2 : gY (sub T.data.toList S.frm (i + 1)) with
 | true =>
  rw [h2] at M2
  rw [if_pos h2] at HA
  have CA := ec (fun w' (h' : Sc B T S w') => pJ B T S 6 (T.extract S.frm (i + 1)) w' h' hn)
  rw [kA] at CA
  clear h h2 M1
  go_enter Tryz.func238, Tryz.ntmps238
  go_wp2_with fail
  go_quiet (fail)
  go_wp2_with fail
  refine (M2.out _).mono ?_
  rintro _ w1 ⟨rfl, Aa⟩
  subst w1
  go_wp2_with fail
  refine (CA.out _ (H.out.below (eJ w nq))).mono ?_
  rintro _ w1 ⟨rfl, h1, h2⟩
  have HS := ec h1
  have HF := ec h2
  clear h1 h2
  go_wp2_with fail
  go_end0
  rw [HA.out]
  exact ⟨rfl, HS.out, (Fr.of_below H.out.1 (eJ w nq)).trans HF.out⟩
 | false =>
  rw [h2] at M2
  rw [if_neg (by rw [h2]; simp)] at HA
  cases h1 : gY (sub T.data.toList S.frm i) with
  | true =>
   rw [h1] at M1
   rw [if_pos h1] at HA
   have CA := ec (fun w' (h' : Sc B T S w') => pJ B T S 6 (T.extract S.frm i) w' h' hn)
   rw [kA] at CA
   clear h h2 h1
   go_enter Tryz.func238, Tryz.ntmps238
   go_wp2_with fail
   go_quiet (fail)
   go_wp2_with fail
   refine (M2.out _).mono ?_
   rintro _ w1 ⟨rfl, Aa⟩
   subst w1
   go_wp2_with fail
   refine (M1.out _).mono ?_
   rintro _ w1 ⟨rfl, Aa⟩
   subst w1
   go_wp2_with fail
   refine (CA.out _ (H.out.below (eJ w nq))).mono ?_
   rintro _ w1 ⟨rfl, h1, h2⟩
   have HS := ec h1
   have HF := ec h2
   clear h1 h2
   have CB := ec (mD B T _ i c w1 HS.out (by omega))
   go_wp2_with fail
   refine CB.out.mono ?_
   rintro _ w2 ⟨rfl, h1, h2⟩
   have Ab := ec h1
   have Ac := ec h2
   clear h1 h2
   go_wp2_with fail
   go_end0
   rw [HA.out]
   exact ⟨rfl, Ab.out, ((Fr.of_below H.out.1 (eJ w nq)).trans HF.out).trans Ac.out⟩
  | false =>
   rw [h1] at M1
   rw [if_neg (by rw [h1]; simp)] at HA
   have CF := ec (fun w' (h' : Sc B T S w') => lp B T S 41 S.frm w' h')
   clear h h2 h1
   go_enter Tryz.func238, Tryz.ntmps238
   go_wp2_with fail
   go_quiet (fail)
   go_wp2_with fail
   refine (M2.out _).mono ?_
   rintro _ w1 ⟨rfl, Aa⟩
   subst w1
   go_wp2_with fail
   refine (M1.out _).mono ?_
   rintro _ w1 ⟨rfl, Aa⟩
   subst w1
   go_wp2_with fail
   refine (CF.out _ (H.out.below (eJ w nq))).mono ?_
   rintro _ w1 ⟨rfl, h1, h2⟩
   have HS := ec h1
   have HF := ec h2
   clear h1 h2
   go_wp2_with fail
   go_end0
   rw [HA.out]
   exact ⟨rfl, HS.out, (Fr.of_below H.out.1 (eJ w nq)).trans HF.out⟩
end Go.Proofs.YtbpphlmakmeoaaaGreatDoor

namespace Go.Proofs.YtbpphlmakmeoaaaGreatDoor
open Go.RowKit
theorem oD (c : Int) (h : 128 ≤ c) : cls c = 0 := by
 have : ∀ x, x = cls c → x = 0 := by
  intro x hx
  unfold cls at hx
  repeat' split at hx
  all_goals omega
 exact this _ rfl
theorem get!_getD (T : ByteArray) (k : Nat) (h : k < T.size) : T.get! k = T.data.toList.getD k 0 := by
 have h' : k < T.data.size := h
 rw [nM T k h]
 show T.data[k]! = _
 rw [getElem!_pos T.data k h']; rfl
theorem zF (T : ByteArray) (pos : Nat) (h : pos < T.size) : Rune T.data.toList pos ((Utf8.decode T pos).1 : Int) (Utf8.decode T pos).2 := by
 have Aa : T.data.toList.length = T.size := by simp
 have hg := nM T pos h
 by_cases ha : T[pos].toNat < 128
 · rw [decode_ascii T pos h ha]
   exact ⟨by omega, Nat.le_refl _, by show pos + 1 ≤ _; omega, by show cls _ = eP _; rw [hg]; rfl, fun j h1 h2 h3 => by simp at h3⟩
 · have hh := decode_high T pos h (by omega)
   have hb : eP (T.data.toList.getD pos 0) = 0 := by rw [hg]; exact oD _ (by omega)
   have hc : cls ((Utf8.decode T pos).1 : Int) = 0 := oD _ (by omega)
   have hw : (Utf8.decode T pos).2 = 1 ∨ (pos + (Utf8.decode T pos).2 ≤ T.size ∧ ∀ k, 1 ≤ k → k < (Utf8.decode T pos).2 → 128 ≤ (T.get! (pos + k)).toNat) := by
    have hn : ¬ (T.get! (pos + 0)).toNat < 128 := by rw [get_at T pos h]; exact ha
    simp only [Utf8.decode, hn, if_false]
    split
    · next h1 =>
      split
      · right
        simp only [Bool.and_eq_true, decide_eq_true_eq, beq_iff_eq] at h1
        refine ⟨by show pos + 2 ≤ _; omega, fun k k1 k2 => ?_⟩
        have : k = 1 := by simp at k2; omega
        subst this; omega
      · exact .inl rfl
    · split
      · next h1 =>
        split
        · right
          simp only [Bool.and_eq_true, decide_eq_true_eq, beq_iff_eq] at h1
          refine ⟨by show pos + 3 ≤ _; omega, fun k k1 k2 => ?_⟩
          have : k = 1 ∨ k = 2 := by simp at k2; omega
          rcases this with rfl | rfl <;> omega
        · exact .inl rfl
      · split
        · next h1 =>
          split
          · right
            simp only [Bool.and_eq_true, decide_eq_true_eq, beq_iff_eq] at h1
            refine ⟨by show pos + 4 ≤ _; omega, fun k k1 k2 => ?_⟩
            have : k = 1 ∨ k = 2 ∨ k = 3 := by simp at k2; omega
            rcases this with rfl | rfl | rfl <;> omega
          · exact .inl rfl
        · exact .inl rfl
   refine ⟨by omega, hh.2, ?_, by rw [hc, hb], fun j h1 h2 h3 => ?_⟩
   · rcases hw with hw | hw <;> omega
   · rcases hw with hw | hw
     · omega
     · by_cases e : j = pos
       · subst e; exact hb
       · have := hw.2 (j - pos) (by omega) (by omega)
         have e2 : pos + (j - pos) = j := by omega
         rw [e2, get!_getD T j (by omega)] at this
         exact oD _ (by omega)
theorem wQ (B : Nat) (s : List UInt8) (T : ByteArray) (hTs : T.data.toList = s ++ [10]) (R : Res) (S : St) (i w' : Nat) (c : Int) (w : World) (h : Sc B T S w) (hr : Rune T.data.toList i c w') (hI : sF T.data.toList R S i) (hT : T.size ≤ 1000000) :
    Calls Tryz.prog S.fn #[.pointer (some ⟨B, 0, none⟩), .int .i64 i, .int .i32 c] w fun r w' => r = .returned (.tuple #[]) ∧ Sc B T (mM T.data.toList S i c) w' ∧ Fr B w w' := by
 have Ab : T.data.toList.length = T.size := by simp
 have Aa : i < T.size := by have := hr.lt; omega
 obtain ⟨he, Ac, ⟨hf, ht, hm, hW⟩ | ⟨Ad, ht, hm, hW, hk⟩⟩ := hI
 · simp only [mM, hf, if_true]
   exact mD B T S i c w h (by omega)
 · rcases hk with ⟨hf, h1, h2⟩ | ⟨hf, h1, h2⟩ | ⟨hf, h1, h2⟩ | ⟨hf, h1, p, h2, h3, h4, h5, h6, h7⟩ | ⟨hf, h1, h2⟩ | ⟨hf, h1, h2⟩ | ⟨hf, h1, h2⟩ | ⟨hf, h1, h2⟩
   all_goals simp only [mM, hf]
   · exact wE B T S i c w h (by omega) hT Aa (by omega)
   · exact ym B T S i c w h (by omega) hT Aa (by omega)
   · refine tP B T S i c w h (by omega) hT Aa (by omega) (fun h9 => ?_)
     have hc := hr.cls
     rcases Nat.lt_or_ge (i + 1) T.size with h5 | h5
     · exact h5
     · exfalso
       have e : i = s.length := by rw [hTs] at Ab; simp at Ab; omega
       rw [h9, hTs, e, lG] at hc
       revert hc; decide
   · exact sb B T S i c w h (by omega) Aa (by omega)
   · exact xR B T S i c w h (by omega) hT Aa (by omega)
   · exact uQ B T S i c w h (by omega) hT Aa (by omega)
   · exact tY B T S i c w h (by omega) hT Aa (by omega)
   · exact wM B T S i c w h (by omega) hT Aa (by omega)
end Go.Proofs.YtbpphlmakmeoaaaGreatDoor

set_option maxRecDepth 100000
set_option maxHeartbeats 8000000
namespace Go.Proofs.YtbpphlmakmeoaaaGreatDoor
open Go.RowKit
section
variable {B : Nat} {T : ByteArray} {S : St} {w : World}
theorem Sc.iter (h : Sc B T S w) (pos : Nat) : Sc B T S (w.iterAt (B + 1) T pos) := by
 obtain ⟨hs, tv, rv, hb, h1, h2⟩ := h
 have ow : ∀ {e k n : Nat} {v : Value} {xs : List Value}, w.ownsRow (B + 2) e k v n xs → (w.iterAt (B + 1) T pos).ownsRow (B + 2) e k v n xs := fun {e k n v xs} ho => by
  refine ⟨ho.1, ?_⟩
  rcases ho.2 with h3 | ⟨g, Ab, Aa, h4, h5, h6, h7⟩
  · exact .inl h3
  · exact .inr ⟨g, Ab, Aa, h4, h5, (Lib.iterAt_other w (B + 1) g T pos (by omega)).trans h6, h7⟩
 exact ⟨by rw [Lib.iterAt_size]; exact hs, tv, rv, (Lib.iterAt_other w (B + 1) B T pos (by omega)).trans hb, ow h1, ow h2⟩
end
def tH : St := ⟨177, 0, [], [], 0, 0⟩
theorem xG (s : ByteArray) (w : World) (hs : 65536 < s.size) :
    Calls Tryz.prog 125 #[.string s] w fun r w' => r = .returned (.pointer (some ⟨w.heap.size, 0, none⟩)) ∧ Below w.heap.size w w' ∧ w'.cell? ⟨w.heap.size, 5, none⟩ = some (.int .i64 5) ∧ w'.cell? ⟨w.heap.size, 6, none⟩ = some (.int .i64 0) := by
 go_enter Tryz.func125, Tryz.ntmps125
 go_wp2_with fail
 go_ret
 refine ⟨rfl, (Below.refl _ _).alloc (Nat.le_refl _) _, ?_, ?_⟩
 · rw [cell_of_row _ w.heap.size 5 _ 204 (0, 0) (heap_alloc_new w _)]; rfl
 · rw [cell_of_row _ w.heap.size 6 _ 204 (0, 0) (heap_alloc_new w _)]; rfl
def Ends (s : List UInt8) (S : St) : Prop :=
 (jb s).err = 0 ∧ S.err = 0 ∧ S.tk = (jb s).tk ∧ S.rm = (jb s).rm ∨ (jb s).err ≠ 0 ∧ S.err = (jb s).err ∧ S.place = (jb s).place
theorem zl {s : List UInt8} {S : St} {e : Nat} (he : e ≠ 0) (h1 : S.err = (e : Int)) (h2 : W (s ++ [10]) 0 [] [] = ⟨[], [], e, S.place⟩) : Ends s S := by
 rcases lm s with ⟨h3, _, _, h4⟩ | ⟨h3, _, h4⟩
 · rw [h4] at h2
   refine .inr ⟨h3, ?_, ?_⟩ <;> rw [h2]
   exact h1
 · rw [h4] at h2
   simp only [Res.mk.injEq] at h2
   omega
theorem zP {s : List UInt8} {S : St} (h1 : S.err = 0) (h2 : W (s ++ [10]) 0 [] [] = ⟨S.tk, S.rm, 0, s.length + 1⟩) : Ends s S := by
 rcases lm s with ⟨h3, _, _, h4⟩ | ⟨h3, _, h4⟩
 · rw [h4] at h2
   rw [h2] at h3
   simp at h3
 · rw [h4] at h2
   simp only [Res.mk.injEq, and_true] at h2
   exact .inl ⟨h3, h1, h2.1.symm, h2.2.symm⟩
theorem yk {B : Nat} {w a b : World} (h : Below B w a) (hf : Fr B a b) : Below B w b :=
 h.trans ⟨hf.os, hf.tape, hf.output, hf.size, fun k hk => hf.block k (by omega) (by omega)⟩
theorem I8 {L : List UInt8} {R : Res} {S : St} {i : Nat} (h : sF L R S i) : S.fn = 177 ∨ S.fn = 231 ∨ S.fn = 232 ∨ S.fn = 233 ∨ S.fn = 287 ∨ S.fn = 235 ∨ S.fn = 236 ∨ S.fn = 237 ∨ S.fn = 238 := by
 obtain ⟨_, _, ⟨hf, _⟩ | ⟨_, _, _, _, hk⟩⟩ := h
 · exact .inl hf
 · rcases hk with ⟨hf, _⟩ | ⟨hf, _⟩ | ⟨hf, _⟩ | ⟨hf, _⟩ | ⟨hf, _⟩ | ⟨hf, _⟩ | ⟨hf, _⟩ | ⟨hf, _⟩ <;> simp [hf]
theorem A8 (s : ByteArray) (w : World) (hs : s.size ≤ 65536) (B : Nat) (hB : w.heap.size = B) :
    Calls Tryz.prog 125 #[.string s] w fun r w' => r = .returned (.pointer (some ⟨B, 0, none⟩)) ∧ Below B w w' ∧
     ∃ S T, Sc B T S w' ∧ Ends s.data.toList S := by
 have HB := ec hB
 clear hB
 have Ad : (s ++ ⟨#[10]⟩ : ByteArray).data.toList = s.data.toList ++ [10] := by simp
 have Au : (s ++ ⟨#[10]⟩ : ByteArray).size = s.size + 1 := by rw [ByteArray.size_append]; rfl
 go_enter Tryz.func125, Tryz.ntmps125
 go_wp2_with fail
 have Ah : Sc w.heap.size (s ++ ⟨#[10]⟩) tH ((w.alloc (.cells (cellsOf w.heap.size (s ++ ⟨#[10]⟩) tH (.slice none 0 0) (.slice none 0 0)) 204)).iter (s ++ ⟨#[10]⟩) 0) := by
  refine ⟨by simp [World.iter], .slice none 0 0, .slice none 0 0, ?_, ⟨rfl, .inl ⟨rfl, rfl⟩⟩, ⟨rfl, .inl ⟨rfl, rfl⟩⟩⟩
  exact (Go.heap_alloc_old _ _ (by simp)).trans (heap_alloc_new w _)
 have Af : ((w.alloc (.cells (cellsOf w.heap.size (s ++ ⟨#[10]⟩) tH (.slice none 0 0) (.slice none 0 0)) 204)).iter (s ++ ⟨#[10]⟩) 0).heap[w.heap.size + 1]? = some (.stringIter (s ++ ⟨#[10]⟩) 0) := by
  have := World.iter_heap (w.alloc (.cells (cellsOf w.heap.size (s ++ ⟨#[10]⟩) tH (.slice none 0 0) (.slice none 0 0)) 204)) (s ++ ⟨#[10]⟩) 0
  simpa using this
 have Ag : Below w.heap.size w ((w.alloc (.cells (cellsOf w.heap.size (s ++ ⟨#[10]⟩) tH (.slice none 0 0) (.slice none 0 0)) 204)).iter (s ++ ⟨#[10]⟩) 0) :=
  ((Below.refl _ _).alloc (Nat.le_refl _) _).trans ((lc _ _ _).mono (by simp))
 have Ak : sF (s ++ ⟨#[10]⟩ : ByteArray).data.toList (W (s.data.toList ++ [10]) 0 [] []) tH 0 := ⟨rfl, Nat.zero_le _, .inl ⟨rfl, Nat.zero_le _, Nat.zero_le _, by rw [List.drop_zero, Ad]; rfl⟩⟩
 have HSc := ec Ah
 have HIt := ec Af
 have HBl := ec Ag
 have HIv := ec Ak
 simp only [cellsOf, tH] at HSc HIt HBl
 clear Ah Af Ag Ak
 generalize s ++ ⟨#[10]⟩ = T at *
 rw [HB.out] at HSc HIt HBl ⊢
 have HTl := ec Ad
 have Ao : T.size ≤ 1000000 := by omega
 clear Ad
 go_loopw [4] (fun _ wr => ∃ S Aa, Hid (Sc B T S wr) ∧ Hid (wr.heap[B + 1]? = some (.stringIter T Aa)) ∧ Hid (sF T.data.toList (W (s.data.toList ++ [10]) 0 [] []) S Aa) ∧ Hid (Below B w wr)) (fun _ w' => T.size - w'.iterPos (B + 1))
 case atStart => exact ⟨_, 0, HSc, HIt, HIv, HBl⟩
 case round =>
  obtain ⟨S, Aa, HS, HI, HV, HW⟩ := hrel
  have Ar : T.data.toList.length = T.size := by simp
  have As : Aa ≤ T.size := by have := HV.out.2.1; omega
  clear HSc HIt HIv HBl
  by_cases hp : Aa < T.size
  · have Ac : ∀ ty, (Instr.next (.pointer (some ⟨B + 1, 0, none⟩)) true ty).run Tryz.prog wr = _ := fun ty => Lib.run_next_any_at wr (B + 1) T Aa ty HI.out hp
    have HR := ec (zF T Aa hp)
    obtain ⟨⟨cc, wd⟩, hq⟩ : ∃ q, Utf8.decode T Aa = q := ⟨_, rfl⟩
    rw [hq] at Ac HR
    simp only at Ac HR
    have H1 := ec (HS.out.iter (Aa + wd))
    have I1 := ec (Lib.iterAt_heap wr (B + 1) T Aa (Aa + wd) HI.out)
    have B1 := ec (Lib.below_iterAt HW.out (show B ≤ B + 1 by omega) T (Aa + wd))
    have c1 := H1.out.fnc
    have CC := ec (wQ B s.data.toList T HTl.out _ S Aa wd cc _ H1.out HR.out HV.out Ao)
    have GG := ec (we HR.out HV.out)
    have Aq := HR.out.pos
    have Ap := HR.out.le
    have An := I8 HV.out
    obtain ⟨S', hS'⟩ : ∃ S', mM T.data.toList S Aa (cc : Int) = S' := ⟨_, rfl⟩
    rw [hS'] at CC GG
    clear hS' hq
    rcases An with hf | hf | hf | hf | hf | hf | hf | hf | hf
    all_goals
     rw [hf] at c1 CC
     clear hf
     go_wp2_with fail
     refine CC.out.mono ?_
     rintro _ w2 ⟨rfl, h1, h2⟩
     have c5 := h1.errc
     have Aj := ec h1
     have Am := ec (yk B1.out h2)
     have Ai := ec ((h2.block (B + 1) (by omega) (by omega)).trans I1.out)
     clear h1 h2 c1 CC
     rcases GG.out with ⟨e, Al, he, hR⟩ | Ab
     · have HE := ec (zl Al he hR)
       have At : (e : Int) ≠ 0 := by omega
       rw [he] at c5
       clear he Al hR GG
       go_wp2_with fail
       go_ret
       exact ⟨rfl, Am.out, S', T, Aj.out, HE.out⟩
     · rw [Ab.1] at c5
       have HN := ec Ab
       clear Ab GG
       go_wp2_with fail
       go_roundw
       case rel => exact ⟨S', Aa + wd, Aj, Ai, HN, Am⟩
       case measure =>
        have e1 : wr.iterPos (B + 1) = Aa := by simp [World.iterPos, HI.out]
        have e2 : w2.iterPos (B + 1) = Aa + wd := by simp [World.iterPos, Ai.out]
        rw [e1, e2]; omega
  · have Ac : ∀ ty, (Instr.next (.pointer (some ⟨B + 1, 0, none⟩)) true ty).run Tryz.prog wr = _ := fun ty => Lib.run_next_end_at wr (B + 1) T Aa ty HI.out hp
    have Ae := HV
    rw [HTl.out] at Ae
    have HE := ec (zP HV.out.1 (zG Ae.out (by have := congrArg List.length HTl.out; simp at this; simp; omega)))
    go_wp2_with fail
    go_ret
    exact ⟨rfl, HW.out, S, T, HS.out, HE.out⟩
theorem zA (s : ByteArray) (w : World) (hs : s.size ≤ 65536) :
    Calls Tryz.prog 125 #[.string s] w fun r w' => r = .returned (.pointer (some ⟨w.heap.size, 0, none⟩)) ∧ Below w.heap.size w w' ∧
     ∃ S T, Sc w.heap.size T S w' ∧ Ends s.data.toList S := A8 s w hs _ rfl
end Go.Proofs.YtbpphlmakmeoaaaGreatDoor

set_option maxRecDepth 100000
set_option maxHeartbeats 1600000
namespace Go.Proofs.YtbpphlmakmeoaaaGreatDoor
open Go.RowKit
def gz (s : List UInt8) : Res := if 65536 < s.length then ⟨[], [], 5, 0⟩ else jb s
theorem xY {w : World} {B B' e k n : Nat} {v : Value} {xs : List Value} (h : w.ownsRow B e k v n xs) (hb : B' ≤ B) : w.ownsRow B' e k v n xs := by
 refine ⟨h.1, ?_⟩
 rcases h.2 with h1 | ⟨g, Ab, Aa, h1, h2, h3⟩
 · exact .inl h1
 · exact .inr ⟨g, Ab, Aa, h1, Nat.le_trans hb h2, h3⟩
theorem ze {s : List UInt8} (h : (gz s).err ≠ 0) : (gz s).tk = [] ∧ (gz s).rm = [] := by
 unfold gz at h ⊢
 split
 · exact ⟨rfl, rfl⟩
 · next hl =>
   rw [if_neg hl] at h
   rcases lm s with ⟨_, h2, h3, _⟩ | ⟨h1, _⟩
   · exact ⟨h2, h3⟩
   · exact absurd h1 h
theorem pf {s : List UInt8} (h : (gz s).err = 0) : (gz s).place = s.length ∧ s.length ≤ 65536 ∧ gz s = jb s := by
 unfold gz at h ⊢
 split
 · next hl => rw [if_pos hl] at h; simp at h
 · next hl =>
   rw [if_neg hl] at h
   rcases lm s with ⟨h1, _⟩ | ⟨_, h2, _⟩
   · exact absurd h h1
   · exact ⟨h2, by omega, rfl⟩
theorem uP (s : ByteArray) (w : World) :
    Calls Tryz.prog 60 #[.string s] w fun r w' => ∃ v, r = .returned (.tuple #[v, .int .i64 (gz s.data.toList).err, .int .i64 (gz s.data.toList).place]) ∧
     w'.ownsRow w.heap.size 188 3 v (gz s.data.toList).tk.length (hX (gz s.data.toList).tk) ∧ Below w.heap.size w w' := by
 have Ab : s.data.toList.length = s.size := by simp
 by_cases hs : 65536 < s.size
 · have HL : Hid (gz s.data.toList = ⟨[], [], 5, 0⟩) := by unfold Hid gz; rw [if_pos (by omega)]
   have CC := ec (xG s w hs)
   clear hs Ab
   go_enter Tryz.func60, Tryz.ntmps60
   go_wp2_with fail
   refine CC.out.mono ?_
   rintro _ w1 ⟨rfl, hb, c5, c6⟩
   have HB := ec hb
   clear hb CC
   go_wp2_with fail
   go_quiet (fail)
   go_wp2_with fail
   go_ret3
   rw [HL.out]
   exact ⟨_, rfl, ⟨rfl, .inl ⟨rfl, rfl⟩⟩, HB.out.trans ((eJ w1 nq).mono HB.out.size)⟩
 · have HL : Hid (gz s.data.toList = jb s.data.toList) := by unfold Hid gz; rw [if_neg (by omega)]
   have CC := ec (zA s w (by omega))
   rw [HL.out]
   clear hs
   go_enter Tryz.func60, Tryz.ntmps60
   go_wp2_with fail
   refine CC.out.mono ?_
   rintro _ w1 ⟨rfl, hb, S, T, hS, hE⟩
   have HB := ec hb
   have c5 := hS.errc
   have c6 := hS.placec
   obtain ⟨_, tv, rv, Aa, ht, hr⟩ := hS
   have cv : w1.cell? ⟨w.heap.size, 3, none⟩ = some tv := by rw [cell_of_row w1 w.heap.size 3 _ 204 _ Aa]; rfl
   have HT := ec (xY ht (Nat.le_add_right w.heap.size 2))
   clear hb CC Aa ht hr
   rcases hE with ⟨h1, h2, h3, h4⟩ | ⟨h1, h2, h3⟩
   · rw [h2] at c5
     have HP := ec ((pf (s := s.data.toList) (by rw [HL.out]; exact h1)).1)
     rw [HL.out] at HP
     rw [h3] at HT
     have H1 := ec h1
     clear h1 h2 h3 h4
     go_wp2_with fail
     go_ret3
     rw [H1.out, HP.out, Ab]
     exact ⟨_, rfl, HT.out, HB.out⟩
   · rw [h2] at c5
     rw [h3] at c6
     have Ac : ((jb s.data.toList).err : Int) ≠ 0 := by omega
     have HE := ec (ze (s := s.data.toList) (by rw [HL.out]; exact h1))
     rw [HL.out] at HE
     clear h1 h2 h3 HL
     go_wp2_with fail
     go_quiet (fail)
     go_wp2_with fail
     go_ret3
     rw [HE.out.1]
     exact ⟨_, rfl, ⟨rfl, .inl ⟨rfl, rfl⟩⟩, HB.out.trans ((eJ w1 nq).mono HB.out.size)⟩
end Go.Proofs.YtbpphlmakmeoaaaGreatDoor
