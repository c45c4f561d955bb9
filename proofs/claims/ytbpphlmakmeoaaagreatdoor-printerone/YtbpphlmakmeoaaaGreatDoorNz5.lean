import Derived.Test.YtbpphlmakmeoaaaGreatDoorMoves
import Derived.KernelRfl
namespace Go.Proofs.YtbpphlmakmeoaaaGreatDoor.Sy
def Nz {α : Type} (f : M α) : Prop := ∀ s c n, f s = .bad c n → c ≠ 0
theorem Nz.pure {α : Type} (a : α) : Nz (Pure.pure a : M α) := by intro s c n h; cases h
theorem Nz.fail {α : Type} (e : Int) (he : e ≠ 0) : Nz (failM e : M α) := by intro s c n h; cases h; exact he
theorem Nz.ask {α : Type} (q : RS → α) : Nz (gB q) := by intro s c n h; cases h
theorem Nz.set (q : RS → RS) : Nz (mV q) := by intro s c n h; cases h
theorem Nz.bind {α β : Type} {x : M α} {f : α → M β} (hx : Nz x) (hf : ∀ a, Nz (f a)) : Nz (x >>= f) := by
 intro s c n h
 cases hxs : x s with
 | ok a t => rw [hY hxs] at h; exact hf a t c n h
 | bad e m => rw [th hxs] at h; cases h; exact hx s _ _ hxs
theorem Nz.ite {α : Type} {x y : M α} (c : Bool) (hx : c = true → Nz x) (hy : c = false → Nz y) : Nz (if c = true then x else y) := by
 cases c
 · simpa using hy rfl
 · simpa using hx rfl
section
variable (F : j5) (K : fQ)
end
end Go.Proofs.YtbpphlmakmeoaaaGreatDoor.Sy
