/- The items of a list, one behind the other. -/
import Derived.Test.YtbdlgglbcaoakaaGreatRule8
namespace Go.Proofs.YtbdlgglbcaoakaaGreat
open Go.RowKit Go.Shelf Go.Maps Go.WideMaps

def AllOk (l : List (Er Unit)) : Prop := ∀ x ∈ l, x = .ok ()
theorem AllOk.nil : AllOk [] := fun _ h => by cases h
theorem AllOk.snoc {l : List (Er Unit)} {i : Nat} {x : Er Unit} (h : AllOk (l.take i)) (hx : l[i]? = some x) (ho : x = .ok ()) : AllOk (l.take (i + 1)) := by
  intro y hy
  rw [take_snoc hx, List.mem_append] at hy
  rcases hy with hy | hy
  · exact h y hy
  · rw [List.mem_singleton] at hy; rw [hy]; exact ho
/-- The first that is wrong. -/
def Bad1 (l : List (Er Unit)) (n : Nat) (c : Int) : Prop := AllOk (l.take n) ∧ l[n]? = some (.error c)
theorem firstE_ok {l : List (Er Unit)} (h : AllOk l) : ∀ k, firstE k l = (0, k + l.length) := by
  induction l with
  | nil => intro k; rfl
  | cons x r ih =>
    intro k
    have hx := h x (List.mem_cons_self ..)
    subst hx
    show firstE (k + 1) r = _
    rw [ih (fun y hy => h y (List.mem_cons_of_mem _ hy)) (k + 1), List.length_cons]
    congr 1; omega
theorem firstE_bad {l : List (Er Unit)} {n : Nat} {c : Int} (h : Bad1 l n c) : ∀ k, firstE k l = (c, k + n) := by
  induction l generalizing n with
  | nil => exact absurd h.2 (by simp)
  | cons x r ih =>
    intro k
    cases n with
    | zero =>
      have hx : x = .error c := by have := h.2; simpa using this
      subst hx
      rfl
    | succ n =>
      have hx := h.1 x (by simp)
      subst hx
      show firstE (k + 1) r = _
      rw [ih (n := n) ⟨fun y hy => h.1 y (by simp [hy]), by have := h.2; simpa using this⟩ (k + 1)]
      congr 1; omega
theorem AllOk.app {l m : List (Er Unit)} (h : AllOk l) (k : AllOk m) : AllOk (l ++ m) := by
  intro x hx
  rcases List.mem_append.1 hx with a | a
  · exact h x a
  · exact k x a
theorem Bad1.left {l m : List (Er Unit)} {n : Nat} {c : Int} (h : Bad1 l n c) : Bad1 (l ++ m) n c := by
  have hn := (List.getElem?_eq_some_iff.1 h.2).1
  refine ⟨?_, ?_⟩
  · rw [List.take_append_of_le_length (by omega)]; exact h.1
  · rw [List.getElem?_append_left hn]; exact h.2
theorem Bad1.right {l m : List (Er Unit)} {n : Nat} {c : Int} (hl : AllOk l) (h : Bad1 m n c) : Bad1 (l ++ m) (l.length + n) c := by
  refine ⟨?_, ?_⟩
  · intro x hx
    rw [List.take_append] at hx
    rcases List.mem_append.1 hx with a | a
    · exact hl x (List.mem_of_mem_take a)
    · exact h.1 x (by rwa [Nat.add_sub_cancel_left] at a)
  · rw [List.getElem?_append_right (by omega), Nat.add_sub_cancel_left]; exact h.2

section
variable {R : Nat} {S : StatM} {st : St9} {mp : Mp8} {it : Nat} {seen : List Bytes} {w w' : World}
/-- What the asking of items may write. -/
def Zi (R : Nat) (mp : Mp8) : Nat → Prop := fun k => k = R ∨ k = mp.C
/-- How the asking of a list's items ends. -/
def Ee (R : Nat) (S : StatM) (st : St9) (mp : Mp8) (it : Nat) (seen' : List Bytes) (w : World) (l : List (Er Unit)) (e : Ending) (w' : World) : Prop :=
  Fr (Zi R mp) w w' ∧ ((e = .returned (.tuple #[]) ∧ AllOk l ∧ Res R S st mp (it + l.length) seen' w') ∨ (∃ n c, Bad1 l n c ∧ e = .panicked [fl c ((it + n : Nat) : Int)]))
theorem Res.count (h : Res R S st mp it seen w) : Res R S st mp (it + 1) seen (w.setCell ⟨R, 9, none⟩ (.int .i64 ((it + 1 : Nat) : Int))) := by
  have hk : ∀ k, k ≠ R → (w.setCell ⟨R, 9, none⟩ (.int .i64 ((it + 1 : Nat) : Int))).heap[k]? = w.heap[k]? := fun k hk => heap_setCell_other w _ k _ (fun e => hk e)
  obtain ⟨n1, n2, n3, n4, n5, n6, n7, n8⟩ := h.ne
  refine ⟨?_, h.rep.keep fun g hg => hk g (by omega), h.fit, h.mK.keep (hk _ (by omega)), h.mM.keep (hk _ (by omega)), h.mP.keep (hk _ (by omega)), h.mS.keep (hk _ (by omega)), h.mR.keep (hk _ (by omega)), h.mE.keep (hk _ (by omega)), h.mT.keep (hk _ (by omega)), h.mC.keep (hk _ (by omega)), h.ne, h.nc⟩
  exact loc_set h.box
end
end Go.Proofs.YtbdlgglbcaoakaaGreat
