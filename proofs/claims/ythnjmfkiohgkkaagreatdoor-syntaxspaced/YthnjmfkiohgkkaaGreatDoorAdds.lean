/- A list with one thing more: what is known of the kinds of elements; what the growing leaves as it was. -/
import Derived.Test.YthnjmfkiohgkkaaGreatDoorData
import Derived.Test.YthnjmfkiohgkkaaGreatDoorBook
namespace Go.Proofs.YthnjmfkiohgkkaaGreatDoor.Sy
open Go.RowKit

/-- What a call leaves as it was that writes a reader and a row. -/
structure Fg (R : Nat) (row : Option Nat) (w w' : World) : Prop where
  os : w'.os = w.os
  tape : w'.tape = w.tape
  output : w'.output = w.output
  size : w.heap.size ≤ w'.heap.size
  block : ∀ k, k < w.heap.size → k ≠ R → some k ≠ row → w'.heap[k]? = w.heap[k]?

theorem Fq.fg {R : Nat} {w w' : World} (h : Fq R w w') (row : Option Nat) : Fg R row w w' := ⟨h.os, h.tape, h.output, h.size, fun k hk hn _ => h.block k hk hn⟩
theorem Fg.fq {R : Nat} {w w' : World} (h : Fg R none w w') : Fq R w w' := ⟨h.os, h.tape, h.output, h.size, fun k hk hn => h.block k hk hn (by simp)⟩
theorem Fg.trans {R : Nat} {row : Option Nat} {a b c : World} (h : Fg R row a b) (k : Fg R row b c) : Fg R row a c :=
  ⟨k.os.trans h.os, k.tape.trans h.tape, k.output.trans h.output, Nat.le_trans h.size k.size, fun i hi hn hr => (k.block i (Nat.lt_of_lt_of_le hi h.size) hn hr).trans (h.block i hi hn hr)⟩

/-- What a call of add ends with. -/
def EndsA {α : Type} (R : Nat) (L : List Tok) (N : Nat) (st : St9) (w : World) (row : Option Nat) (rep : World → α → Value → Prop) (o : Out α) (e : Ending) (w' : World) : Prop :=
  match o with
  | .ok a t => ∃ v, e = .returned v ∧ rep w' a v ∧ Rd R L N t st w' ∧ Fg R row w w'
  | .bad c n => e = .panicked [{ v := .iface 58 (.agg #[.int .i64 c, .int .i64 (placeAt L N n)]), recovered := false }] ∧ Fq R w w'
theorem EndsA.split {α : Type} {R : Nat} {L : List Tok} {N : Nat} {st : St9} {w : World} {row : Option Nat} {rep : World → α → Value → Prop} {o : Out α} {e : Ending} {w' : World} (h : EndsA R L N st w row rep o e w') :
    (∃ a t v, o = .ok a t ∧ e = .returned v ∧ rep w' a v ∧ Rd R L N t st w' ∧ Fg R row w w') ∨
    (∃ c n, o = .bad c n ∧ e = .panicked [{ v := .iface 58 (.agg #[.int .i64 c, .int .i64 (placeAt L N n)]), recovered := false }] ∧ Fq R w w') := by
  cases o with
  | ok a t => obtain ⟨v, h⟩ := h; exact .inl ⟨a, t, v, rfl, h⟩
  | bad c n => exact .inr ⟨c, n, rfl, h⟩
theorem EndsA.of_ok {α : Type} {R : Nat} {L : List Tok} {N : Nat} {st : St9} {w : World} {row : Option Nat} {rep : World → α → Value → Prop} {o : Out α} {a : α} {t : RS} {v : Value} {w' : World} (ho : .ok a t = o) (hv : rep w' a v)
    (hR : Rd R L N t st w') (hF : Fg R row w w') : EndsA R L N st w row rep o (.returned v) w' := by subst ho; exact ⟨v, rfl, hv, hR, hF⟩
theorem EndsA.of_bad {α : Type} {R : Nat} {L : List Tok} {N : Nat} {st : St9} {w : World} {row : Option Nat} {rep : World → α → Value → Prop} {o : Out α} {c : Int} {n : Nat} {w' : World} (ho : .bad c n = o)
    (hF : Fq R w w') : EndsA R L N st w row rep o (.panicked [{ v := .iface 58 (.agg #[.int .i64 c, .int .i64 (placeAt L N n)]), recovered := false }]) w' := by subst ho; exact ⟨rfl, hF⟩

theorem info_parts' {P : Program} {e : Nat} {z : Option Value} {k b : Nat} (h : (P.info? e).map (fun i => (i.zero, i.size, i.bytes)) = some (z, k, b)) : ∃ i, P.info? e = some i ∧ i.zero = z ∧ i.size = k ∧ i.bytes = b := by
  cases hi : P.info? e with
  | none => rw [hi] at h; cases h
  | some i => rw [hi] at h; simp at h; exact ⟨i, rfl, h⟩

theorem slice_form {w : World} {e k : Nat} {v : Value} {n : Nat} {xs : List Value} (h : w.ownsRow 0 e k v n xs) : ∃ a c, v = .slice a n c := by
  rcases h.2 with ⟨h1, h2⟩ | ⟨g, cap, cur, h1, _⟩
  · exact ⟨none, 0, by rw [h1, h2]⟩
  · exact ⟨_, _, h1⟩

theorem rows_one {α : Type} {Z : Nat → Prop} {e k : Nat} {c : World → α → List Value → Prop} {w : World} {l : List α} {v : Value} (h : Rows Z e k c w l v) : v.oneCell' = true := by
  obtain ⟨xs, h1, _⟩ := h
  obtain ⟨a, c, rfl⟩ := slice_form h1.1
  rfl

/-- The cells of a new block. -/
theorem news_at {w : World} {cs : List Value} {t : Nat} {g : Nat} (hg : g = w.heap.size) : ∀ j u, cs[j]? = some u → (w.alloc (.cells cs.toArray t)).cell? ((⟨g, 0, none⟩ : Addr).add j) = some u := by
  subst hg
  intro j u hu
  rw [show ((⟨w.heap.size, 0, none⟩ : Addr).add j) = ⟨w.heap.size, j, none⟩ from by unfold Addr.add; split <;> simp_all, cell_of_row _ _ _ _ t _ (heap_alloc_new w _)]
  simpa using hu

/-- The thing that was read has been put behind the list. -/
theorem put_behind {α : Type} {R : Nat} {L : List Tok} {N : Nat} {t : RS} {st : St9} {Z : Nat → Prop} {e k : Nat} {c : World → α → List Value → Prop} {T : List Nat} {w w3 w4 : World} {l : List α} {tv : Value} {news : List Value} {a : α} {g cap ty : Nat}
    {xs : List Value} (hR : Rd R L N t st w) (hw3 : w3 = w.alloc (.cells news.toArray ty))
    (hrow : Row Z e k w tv l.length xs) (hold : ∀ i b, l[i]? = some b → c w b ((xs.drop (i * k)).take k)) (hnew : c w a news) (hn : news.length = k) (hz : ∀ g, w.heap.size ≤ g → Z g)
    (hc : ∀ w w' b ys, Kp T Z w w' → c w b ys → c w' b ys) (heT : e ∉ T) (hzR : ∀ g, Z g → R < g)
    (hown : w4.ownsRow 0 e k (.slice (some ⟨g, 0, none⟩) (l.length + 1) cap) (l.length + 1) (xs ++ news))
    (hg : (tv.ownBlock = some g ∧ w3.grownBy w4 (some g)) ∨ (g = w.heap.size + 1 ∧ w3.grownBy w4 none)) :
    Rows Z e k c w4 (l ++ [a]) (.slice (some ⟨g, 0, none⟩) (l.length + 1) cap) ∧ Rd R L N t st w4 ∧ Fg R tv.ownBlock w w4 := by
  have hsz : w3.heap.size = w.heap.size + 1 := by rw [hw3]; simp
  have hold3 : ∀ k, k < w.heap.size → w3.heap[k]? = w.heap[k]? := fun k hk => by rw [hw3]; exact Go.heap_alloc_old w _ hk
  have hown' : ∀ g, tv.ownBlock = some g → ∃ cur, w.heap[g]? = some (.cells cur e (0, 0)) := by
    intro g hg
    rcases hrow.1.2 with ⟨h1, _⟩ | ⟨g', cap, cur, h1, _, h3, _⟩
    · rw [h1] at hg; cases hg
    · rw [h1] at hg; cases hg; exact ⟨cur, h3⟩
  have hlt : ∀ g, tv.ownBlock = some g → g < w.heap.size := fun g hg => (hrow.1.lt g hg).2
  obtain ⟨row, hr1, hr2⟩ : ∃ row, (row = none ∨ row = tv.ownBlock) ∧ w3.grownBy w4 row := by
    rcases hg with ⟨h1, h2⟩ | ⟨_, h2⟩
    · exact ⟨some g, .inr h1.symm, h2⟩
    · exact ⟨none, .inl rfl, h2⟩
  have hF : Fg R tv.ownBlock w w4 := by
    refine ⟨hr2.os.trans (by rw [hw3]; rfl), hr2.tape.trans (by rw [hw3]; rfl), hr2.output.trans (by rw [hw3]; rfl), by have := hr2.size; omega, fun k hk _ hne => ?_⟩
    rw [hr2.block k (by omega) (by rcases hr1 with rfl | rfl <;> first | exact hne | simp), hold3 k hk]
  have hK : Kp T Z w w4 := by
    have h1 : Kp T Z w w3 := Kp.of_below ⟨by rw [hw3]; rfl, by rw [hw3]; rfl, by rw [hw3]; rfl, by omega, fun k hk => hold3 k hk⟩
    refine h1.trans (Kp.of_grown hr2 (fun g hg => ?_) heT)
    rcases hr1 with rfl | rfl
    · cases hg
    · obtain ⟨cur, hcur⟩ := hown' g hg
      exact ⟨cur, (hold3 g (hlt g hg)).trans hcur⟩
  refine ⟨Rows.snoc ⟨hown, fun g' hg' => ?_⟩ hrow.1.1 hn (fun i b hi => hc _ _ _ _ hK (hold i b hi)) (hc _ _ _ _ hK hnew), hR.keep hF.size fun k hk => ?_, hF⟩
  · simp only [Value.ownBlock, Option.some.injEq] at hg'
    subst hg'
    rcases hg with ⟨h1, _⟩ | ⟨h1, _⟩
    · exact hrow.2 _ h1
    · exact hz _ (by omega)
  · have hRl := hR.lt
    exact (hr2.block k (by omega) (by
      rcases hr1 with rfl | rfl
      · simp
      · intro h'
        have := hzR k (hrow.2 k h'.symm)
        omega)).trans (hold3 k (by omega))
end Go.Proofs.YthnjmfkiohgkkaaGreatDoor.Sy
