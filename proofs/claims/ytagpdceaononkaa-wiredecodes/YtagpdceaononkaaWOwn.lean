/- Steps in memory of their own. -/
import Derived.Test.YtagpdceaononkaaWStp
namespace Go.Proofs.Ytagpdceaononkaa
open Go.RowKit

def chL (l : List (Int × Int)) : List Value := l.flatMap fun x => [.int .i64 x.1, .int .i64 x.2]
theorem chL_app {a b : List (Int × Int)} : chL (a ++ b) = chL a ++ chL b := by unfold chL; simp
theorem chL_len : ∀ {l : List (Int × Int)}, (chL l).length = l.length * 2
  | [] => rfl
  | x :: l => by have := chL_len (l := l); unfold chL at *; rw [List.flatMap_cons, List.length_append, this, List.length_cons]; simp; omega
theorem chL_get : ∀ {l : List (Int × Int)} {i : Nat} {x : Int × Int}, l[i]? = some x → (chL l)[i * 2]? = some (.int .i64 x.1) ∧ (chL l)[i * 2 + 1]? = some (.int .i64 x.2)
  | [], i, x, h => by simp at h
  | y :: l, 0, x, h => by simp at h; subst h; exact ⟨rfl, rfl⟩
  | y :: l, i + 1, x, h => by
    have := chL_get (l := l) (i := i) (x := x) (by simpa using h)
    rw [show (i + 1) * 2 = i * 2 + 1 + 1 by omega]
    exact this
theorem infoCh : (Try.prog.info? 54).map (fun i => (i.zero, i.size, i.bytes)) = some (some (.agg #[.int .i64 0, .int .i64 0]), 2, 16) := by kernel_rfl
theorem infoSt : (Try.prog.info? 52).map (fun i => (i.zero, i.size, i.bytes)) = some (some (.agg #[.int .i64 0, .int .i64 0, .int .i64 0, .int .i64 0, .slice none 0 0]), 5, 56) := by kernel_rfl
theorem chn_owns {w : World} {B e : Nat} {a : Option Addr} {c : Nat} {l : List (Int × Int)} (h : w.ownsRow B e 2 (.slice a l.length c) l.length (chL l)) : ChN w.heap.size w a l := by
  intro i x hi
  obtain ⟨d0, d1⟩ := chL_get hi
  rcases h.2 with ⟨_, h0⟩ | ⟨g, cap, cur, e, _, hg, _⟩
  · rw [List.eq_nil_of_length_eq_zero h0] at hi; simp at hi
  · simp only [Value.slice.injEq, true_and] at e
    obtain ⟨rfl, rfl⟩ := e
    have hc := h.cells (g := g) (by simp [Value.ownBlock])
    refine ⟨g, 0, rfl, loc_lt hg, ?_, ?_⟩
    · have := hc _ _ d0; rwa [Addr.add_lit] at this
    · have := hc _ _ d1; rwa [Addr.add_lit] at this
/-- A step in five cells, its choices in a block of their own, of Z. -/
def cSt (Z : Nat → Prop) (w : World) (s : StM) (xs : List Value) : Prop := ∃ ca cc, xs = stc s ca cc ∧ w.ownsRow 0 54 2 (.slice ca s.ch.length cc) s.ch.length (chL s.ch) ∧ ∀ g, Value.ownBlock (.slice ca s.ch.length cc) = some g → Z g
theorem cSt_ag {Z Z' : Nat → Prop} {w w' : World} {s : StM} {xs : List Value} (hag : Ag Z Z' w w') (h : cSt Z w s xs) : cSt Z' w' s xs := by
  obtain ⟨ca, cc, e, ho, hz⟩ := h
  exact ⟨ca, cc, e, owns_keep ho fun g hg => (hag g (hz g hg)).2, fun g hg => (hag g (hz g hg)).1⟩
/-- A row of steps of its own, their choices beside. -/
def Gs (B : Nat) (l : List StM) (mv : Value) (wr : World) : Prop := ∃ (Z : Nat → Prop) (xs : List Value), wr.ownsRow B 52 5 mv l.length xs ∧ (∀ g, Z g → B ≤ g ∧ g < wr.heap.size ∧ mv.ownBlock ≠ some g) ∧ ∀ i x, l[i]? = some x → cSt Z wr x ((xs.drop (i * 5)).take 5)
theorem Gs.nil {B : Nat} {w : World} : Gs B [] (.slice none 0 0) w := ⟨fun _ => False, [], ⟨by simp, .inl ⟨rfl, rfl⟩⟩, fun _ h => h.elim, fun i x hi => by simp at hi⟩
theorem Gs.keep {B : Nat} {l : List StM} {mv : Value} {w w' : World} (h : Gs B l mv w) (hk : ∀ g, B ≤ g → g < w.heap.size → w'.heap[g]? = w.heap[g]?) (hs : w.heap.size ≤ w'.heap.size) : Gs B l mv w' := by
  obtain ⟨Z, xs, ho, hz, hc⟩ := h
  exact ⟨Z, xs, owns_keep ho fun g hg => hk g (ho.lt g hg).1 (ho.lt g hg).2, fun g hg => ⟨(hz g hg).1, by have := (hz g hg).2.1; omega, (hz g hg).2.2⟩, fun i x hi => cSt_ag (fun g hg => ⟨hg, hk g (hz g hg).1 (hz g hg).2.1⟩) (hc i x hi)⟩
theorem Gs.down {B B' : Nat} {l : List StM} {mv : Value} {w : World} (h : Gs B l mv w) (hb : B' ≤ B) : Gs B' l mv w := by
  obtain ⟨Z, xs, ho, hz, hc⟩ := h
  exact ⟨Z, xs, owns_down ho hb, fun g hg => ⟨by have := (hz g hg).1; omega, (hz g hg).2⟩, hc⟩
theorem Gs.row {B : Nat} {l : List StM} {mv : Value} {w : World} (h : Gs B l mv w) : ∃ xs, w.ownsRow B 52 5 mv l.length xs := by
  obtain ⟨Z, xs, ho, _⟩ := h
  exact ⟨xs, ho⟩
theorem Gs.form {B : Nat} {l : List StM} {mv : Value} {w : World} (h : Gs B l mv w) : ∃ a c, mv = .slice a l.length c := by
  obtain ⟨xs, ho⟩ := h.row
  exact owns_slice ho
theorem Gs.grow {B : Nat} {l : List StM} {mv : Value} {wr wd w4 : World} {Z : Nat → Prop} {xs : List Value} {s : StM} {ca : Option Addr} {cc : Nat} {ob : Obj} {g4 cap4 : Nat} (hB : B ≤ wr.heap.size)
    (hrow : wr.ownsRow B 52 5 mv l.length xs) (hz : ∀ g, Z g → B ≤ g ∧ g < wr.heap.size ∧ mv.ownBlock ≠ some g) (hold : ∀ i x, l[i]? = some x → cSt Z wr x ((xs.drop (i * 5)).take 5))
    (hk : ∀ g, B ≤ g → g < wr.heap.size → wd.heap[g]? = wr.heap[g]?) (hs : wr.heap.size ≤ wd.heap.size) (hnew : wd.ownsRow wr.heap.size 54 2 (.slice ca s.ch.length cc) s.ch.length (chL s.ch))
    (hown : w4.ownsRow B 52 5 (.slice (some ⟨g4, 0, none⟩) (l.length + 1) cap4) (l.length + 1) (xs ++ stc s ca cc))
    (hg : (mv.ownBlock = some g4 ∧ (wd.alloc ob).grownBy w4 (some g4)) ∨ (g4 = wd.heap.size + 1 ∧ (wd.alloc ob).grownBy w4 none)) : Gs B (l ++ [s]) (.slice (some ⟨g4, 0, none⟩) (l.length + 1) cap4) w4 := by
  have hmv : ∀ g, mv.ownBlock = some g → B ≤ g ∧ g < wr.heap.size := fun g e => hrow.lt g e
  have hf : Fr (fun k => B ≤ k) wd w4 := grown_fr rfl hg fun g e => (hmv g e).1
  have hs4 := hf.size
  have hx : xs.length = l.length * 5 := hrow.1
  have ag1 : Ag Z (fun g => Z g ∨ Nw wr wd g) wr w4 := fun g hZ => ⟨.inl hZ, by
    obtain ⟨h1, h2, h3⟩ := hz g hZ
    rw [grown_old rfl hg (by omega) h3, hk g h1 h2]⟩
  have hnw : ∀ g, Value.ownBlock (.slice ca s.ch.length cc) = some g → Nw wr wd g := fun g e => hnew.lt g e
  have hn2 : cSt (fun g => Z g ∨ Nw wr wd g) w4 s (stc s ca cc) := ⟨ca, cc, rfl, owns_down (owns_keep hnew fun g hg' => grown_old rfl hg (hnw g hg').2 fun e => by have := (hmv g e).2; have := (hnw g hg').1; omega) (Nat.zero_le _), fun g e => .inr (hnw g e)⟩
  refine ⟨fun g => Z g ∨ Nw wr wd g, xs ++ stc s ca cc, by rw [List.length_append]; exact hown, ?_, ?_⟩
  · intro g hZ
    simp only [Value.ownBlock, ne_eq, Option.some.injEq]
    rcases hZ with hZ | hZ
    · obtain ⟨h1, h2, h3⟩ := hz g hZ
      refine ⟨h1, by omega, fun e => ?_⟩
      rcases hg with ⟨h4, _⟩ | ⟨h4, _⟩
      · exact h3 (by rw [h4, e])
      · omega
    · obtain ⟨h1, h2⟩ := hZ
      refine ⟨by omega, by omega, fun e => ?_⟩
      rcases hg with ⟨h4, _⟩ | ⟨h4, _⟩
      · have := (hmv _ h4).2; omega
      · omega
  · intro i y hi
    by_cases hin : i < l.length
    · rw [List.getElem?_append_left (by omega)] at hi
      rw [List.drop_append_of_le_length (by omega), List.take_append_of_le_length (by simp; omega)]
      exact cSt_ag ag1 (hold i y hi)
    · have hil : i = l.length := by
        have : i < (l ++ [s]).length := by
          apply Classical.byContradiction
          intro hn
          rw [List.getElem?_eq_none (by omega)] at hi
          cases hi
        simp at this
        omega
      subst hil
      rw [List.getElem?_append_right (Nat.le_refl _)] at hi
      simp at hi
      subst hi
      rw [← hx, List.drop_left]
      exact hn2
theorem Gs.sts {B : Nat} {l : List StM} {a : Option Addr} {c : Nat} {w : World} (h : Gs B l (.slice a l.length c) w) (hl : ∀ s ∈ l, s.ch.length ≤ 140737488351232) : Sts w.heap.size w l a := by
  obtain ⟨Z, xs, ho, hz, hc⟩ := h
  intro i s hi
  obtain ⟨ca, cc, e, ho2, hz2⟩ := hc i s hi
  have hil : i < l.length := by
    apply Classical.byContradiction
    intro hn
    rw [List.getElem?_eq_none (by omega)] at hi
    cases hi
  rcases ho.2 with ⟨_, h0⟩ | ⟨g, cap, cur, e2, _, hg, _⟩
  · omega
  · simp only [Value.slice.injEq, true_and] at e2
    obtain ⟨rfl, rfl⟩ := e2
    have hcl := ho.cells (g := g) (by simp [Value.ownBlock])
    have hk : ∀ (j : Nat) u, (stc s ca cc)[j]? = some u → w.cell? ⟨g, 0 + i * 5 + j, none⟩ = some u := fun j u hu => by
      rw [← e] at hu
      rw [List.getElem?_take] at hu
      split at hu
      · rw [List.getElem?_drop] at hu
        have := hcl _ _ hu
        rw [Addr.add_lit] at this
        rw [Nat.add_assoc]
        exact this
      · cases hu
    refine ⟨g, 0, ca, cc, rfl, loc_lt hg, hk 0 _ rfl, hk 1 _ rfl, hk 2 _ rfl, hk 3 _ rfl, hk 4 _ rfl, hl s (List.mem_of_getElem? hi), chn_owns ho2⟩
end Go.Proofs.Ytagpdceaononkaa
