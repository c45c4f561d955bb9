/- slices.symMergeCmpFunc on places, whatever the blocks. -/
import Derived.Test.YthpbadnedhjncaaDoorSym
namespace Go.Proofs.YthpbadnedhjncaaDoor
open Go.RowKit Go.Shelf Go.Lib Go.Sort

theorem sym_any {k : Nat} (r : Nat → Nat) (g : Nat) (cb : Array Value) (blk cap : Nat) (d0 : Array (Fin (k + 1))) (w0 : World)
    (eg : ∀ args w, (callFunc g args).run Tryd.prog w = .ok (.enter g args) w) (hcmp : CmpLays1 Tryd.prog g cb encP (cfP (k := k) r) blk 0 d0.size w0)
    (R : Row1 encP w0 blk 0 d0) (hsz : d0.size ≤ 4096) : ∀ n, Merges r g cb blk cap d0 w0 n := by
  intro n
  induction n with
  | zero => intro a m b d w h; omega
  | succ n IH =>
    intro a m b d w hn hds S ham hmb hb hs1 hs2 hl
    by_cases h1 : m = a + 1
    · subst h1
      have := sym_left r g cb blk cap a b d0 d w0 w eg hcmp R hds.symm S hmb (by omega) (by omega) hs2 (fun j j1 j2 => hl a j (Nat.le_refl _) (by omega) j1 j2)
      rw [hds] at this
      exact this
    · by_cases h2 : b = m + 1
      · subst h2
        have := sym_right r g cb blk cap a m d0 d w0 w eg hcmp R hds.symm S (by omega) (by omega) (by omega) hs1 (fun j j1 j2 => hl j m j1 j2 (Nat.le_refl _) (by omega))
        rw [hds] at this
        exact this
      · exact sym_step r g cb blk cap d0 w0 eg hcmp R hsz n IH a m b d w hn hds S (by omega) (by omega) hb hs1 hs2 hl

end Go.Proofs.YthpbadnedhjncaaDoor
