/- The page's examples, plainly; lists of constants in memory. -/
import Derived.Test.YtjaffhajehcnpaaCrc
namespace Go.Proofs.Ytjaffhajehcnpaa
open Go.RowKit

def nx3 : List (List Int) := [[1], [2], [0]]
def nx2 : List (List Int) := [[], [0]]
def nx1 : List (List Int) := [[0]]
theorem ed3 {a b : Nat} (h : Ed nx3 a b) : a < 3 ∧ b = (a + 1) % 3 := by
  have hl := h.lt
  obtain ⟨_, h2⟩ := h
  match a, hl with
  | 0, _ => simp [nx3] at h2; omega
  | 1, _ => simp [nx3] at h2; omega
  | 2, _ => simp [nx3] at h2; omega
  | n + 3, hl => simp [nx3] at hl; omega
theorem ed3_of {a b : Nat} (ha : a < 3) (hb : b = (a + 1) % 3) : Ed nx3 a b := by
  subst hb
  match a, ha with
  | 0, _ => exact ⟨by decide, by simp [nx3]⟩
  | 1, _ => exact ⟨by decide, by simp [nx3]⟩
  | 2, _ => exact ⟨by decide, by simp [nx3]⟩
theorem cyc3 {l : List Nat} (h : IsCyc nx3 l) : l.length = 3 := by
  have hle : l.length ≤ 3 := nodup_le h.nd h.lt
  have hp : 0 < l.length := by have := h.ne; cases l with | nil => exact absurd rfl this | cons _ _ => simp
  obtain ⟨x, hx⟩ : ∃ x, l[0]? = some x := ⟨_, List.getElem?_eq_getElem hp⟩
  have hx3 : x < 3 := h.lt x (List.mem_of_getElem? hx)
  have key : ∀ i, i < l.length → l[i]? = some ((x + i) % 3) := by
    intro i
    induction i with
    | zero => intro _; rw [hx]; congr 1; omega
    | succ i ih =>
      intro hi
      have h1 := ih (by omega)
      obtain ⟨y, hy⟩ : ∃ y, l[i + 1]? = some y := ⟨_, List.getElem?_eq_getElem hi⟩
      have h2 := ed3 (h.ed i _ y h1 (by rw [Nat.mod_eq_of_lt hi]; exact hy))
      rw [hy]
      congr 1
      omega
  have h1 := key (l.length - 1) (by omega)
  have h2 := ed3 (h.ed (l.length - 1) _ x h1 (by rw [show l.length - 1 + 1 = l.length by omega, Nat.mod_self]; exact hx))
  omega
theorem is3 : IsCyc nx3 [0, 1, 2] := by
  refine cyc_of (a := 0) (z := 2) (by decide) (by decide) rfl rfl (fun i a b ha hb => ?_) (ed3_of (by omega) rfl)
  match i, ha, hb with
  | 0, ha, hb => simp at ha hb; subst ha; subst hb; exact ed3_of (by omega) rfl
  | 1, ha, hb => simp at ha hb; subst ha; subst hb; exact ed3_of (by omega) rfl
  | n + 2, ha, hb => simp at hb
theorem is1 : IsCyc nx1 [0] := by
  refine cyc_of (a := 0) (z := 0) (by decide) (by decide) rfl rfl (fun i a b ha hb => by simp at hb) ⟨by decide, by simp [nx1]⟩
theorem cyc1 {l : List Nat} (h : IsCyc nx1 l) : l = [0] := by
  have hle : l.length ≤ 1 := nodup_le h.nd h.lt
  match l, h.ne, hle, h.lt with
  | [a], _, _, hl => have := hl a (by simp); simp [nx1] at this; rw [this]
theorem ed2 {a b : Nat} (h : Ed nx2 a b) : a = 1 ∧ b = 0 := by
  have hl := h.lt
  obtain ⟨_, h2⟩ := h
  match a, hl with
  | 0, _ => simp [nx2] at h2
  | 1, _ => simp [nx2] at h2; omega
  | n + 2, hl => simp [nx2] at hl; omega
theorem kahn2 : Kahn nx2 [1, 0] := by
  intro j k hj
  match j, hj with
  | 0, hj =>
    simp at hj
    subst hj
    refine ⟨⟨by decide, by simp, fun a he => by have := ed2 he; omega⟩, fun i hi => ?_⟩
    by_cases e : i = 0
    · subst e
      have := hi.2.2 1 ⟨by decide, by simp [nx2]⟩
      simp at this
    · omega
  | 1, hj =>
    simp at hj
    subst hj
    exact ⟨⟨by decide, by simp, fun a he => by have := ed2 he; simp; omega⟩, fun i _ => by omega⟩
  | n + 2, hj => simp at hj
theorem kmax2 : KMax nx2 [1, 0] := by
  intro k hk
  have h1 := hk.1
  have h2 := hk.2.1
  simp [nx2] at h1
  simp at h2
  omega
theorem RR.blk {α : Type} {N k : Nat} {c : World → α → List Value → Prop} {w : World} {l : List α} {g T cap : Nat} {vs : List Value} (hg : Fx g T vs w) (hN : g < N) (hcap : l.length ≤ cap) (hlim : l.length ≤ 140737488351232)
    (hc : ∀ i x, l[i]? = some x → ∃ xs, xs.length = k ∧ (∀ j u, xs[j]? = some u → vs[i * k + j]? = some u) ∧ c w x xs) : RR N k c w l (.slice (some ⟨g, 0, none⟩) l.length cap) := by
  refine ⟨_, cap, rfl, hcap, hlim, fun i x hi => ?_⟩
  obtain ⟨xs, h1, h2, h3⟩ := hc i x hi
  exact ⟨g, 0, xs, rfl, hN, h1, fun j u hu => by rw [Nat.zero_add]; exact hg.get (h2 j u hu), h3⟩
theorem RR.none {α : Type} {N k : Nat} {c : World → α → List Value → Prop} {w : World} : RR N k c w [] (.slice .none 0 0) := ⟨_, _, rfl, Nat.le_refl _, Nat.zero_le _, fun i x hi => by simp at hi⟩
theorem one_at {vs : List Value} {i : Nat} {x : Value} (h : vs[i]? = some x) : ∀ j u, [x][j]? = some u → vs[i * 1 + j]? = some u := by
  intro j u hu
  match j, hu with
  | 0, hu => simp at hu; subst hu; simpa using h
theorem Ints.blk {N g T : Nat} {w : World} {l : List Int} (hg : Fx g T (ints l) w) (hN : g < N) (hlim : l.length ≤ 140737488351232) : Ints N w l (.slice (some ⟨g, 0, none⟩) l.length l.length) :=
  RR.blk hg hN (Nat.le_refl _) hlim fun i x hi => ⟨[.int .i64 x], rfl, one_at (by unfold ints; rw [List.getElem?_map, hi]; rfl), rfl⟩
theorem Lists.blk {N g T : Nat} {w : World} {l : List (List Int)} {vs : List Value} (hg : Fx g T vs w) (hN : g < N) (hlim : l.length ≤ 140737488351232) (hc : ∀ (i : Nat) x, l[i]? = some x → ∃ v, vs[i]? = some v ∧ Ints N w x v) : Lists N w l (.slice (some ⟨g, 0, none⟩) l.length l.length) :=
  RR.blk hg hN (Nat.le_refl _) hlim fun i x hi => by
    obtain ⟨v, h1, h2⟩ := hc i x hi
    exact ⟨[v], rfl, one_at h1, v, rfl, h2⟩
theorem fx_new (w : World) (vs : List Value) (T : Nat) : Fx w.heap.size T vs (w.alloc (.cells vs.toArray T)) := heap_alloc_new w _
theorem Fx.next {g T : Nat} {vs : List Value} {w : World} (h : Fx g T vs w) (o : Obj) : Fx g T vs (w.alloc o) := h.keep ((below_new w o).block g h.lt)
end Go.Proofs.Ytjaffhajehcnpaa
