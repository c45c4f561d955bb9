/- What the last line of SymbolsScript asks, call by call, in whatever order. -/
import Derived.Test.YtijpdoclmplclaaDoes
namespace Go.Proofs.Ytijpdoclmplclaa
open Go.RowKit Go.Shelf Go.Maps

section
variable {w : World} {P R : Nat} {most : Int} {B : Nat} {av : Value} {l : List Bytes}

/-- Both tables, with the program's pointer, the page's list and the names known. -/
def InvB (w : World) (P R : Nat) (most : Int) (B : Nat) (av : Value) (l : List Bytes) (X : World) : Prop := ∃ (Z1 Z2 : Nat → Prop) (M : Nat) (nv : Value) (d : Int) (sv : Value), Two w P R most Z1 Z2 B M nv d sv av l l X
/-- .. and a list of the names. -/
def InvS (w : World) (P R : Nat) (most : Int) (B : Nat) (av : Value) (l : List Bytes) (v : Value) (X : World) : Prop := InvB w P R most B av l X ∧ X.ownsRow 0 9 1 v l.length (strs l)
/-- .. and one list of the numbers, which is no part of the program's table. -/
def Inv1 (w : World) (P R : Nat) (most : Int) (B : Nat) (av : Value) (l : List Bytes) (v : Value) (X : World) : Prop := ∃ (Z1 Z2 : Nat → Prop) (M : Nat) (nv : Value) (d : Int) (sv : Value), Two w P R most Z1 Z2 B M nv d sv av l l X ∧ X.ownsRow 0 3 1 v l.length (ints (srt l)) ∧ ∀ g, v.ownBlock = some g → ¬ Z1 g
/-- .. and two. -/
def Inv2 (w : World) (P R : Nat) (most : Int) (B : Nat) (av : Value) (l : List Bytes) (v u : Value) (X : World) : Prop := InvB w P R most B av l X ∧ X.ownsRow 0 3 1 v l.length (ints (srt l)) ∧ X.ownsRow 0 3 1 u l.length (ints (srt l))
/-- What the walk reads. -/
def Rd (P R B : Nat) (av : Value) (X : World) : Prop := X.cell? ⟨P, 0, none⟩ = some (ptr B) ∧ X.cell? ⟨R, 1, none⟩ = some av

theorem Two.rd {Z1 Z2 : Nat → Prop} {M : Nat} {nv : Value} {d : Int} {sv : Value} {l2 : List Bytes} {X : World} (h : Two w P R most Z1 Z2 B M nv d sv av l2 l X) : Rd P R B av X := ⟨h.cellP.1, cell_of_row X R 1 _ _ _ h.ref.box⟩
theorem InvB.rd {X : World} (h : InvB w P R most B av l X) : Rd P R B av X := by
  obtain ⟨_, _, _, _, _, _, h⟩ := h
  exact h.rd
theorem InvB.bel {X : World} (h : InvB w P R most B av l X) : Below w.heap.size w X := by
  obtain ⟨_, _, _, _, _, _, h⟩ := h
  exact h.bel
theorem InvB.below {X X' : World} (h : InvB w P R most B av l X) (hb : Below X.heap.size X X') : InvB w P R most B av l X' := by
  obtain ⟨_, _, _, _, _, _, h⟩ := h
  exact ⟨_, _, _, _, _, _, h.below hb⟩
theorem InvB.drew {X : World} (h : InvB w P R most B av l X) : InvB w P R most B av l X.drew := h.below (Below.refl _ _).drew
theorem InvB.len {X : World} (h : InvB w P R most B av l X) : l.length ≤ 4096 := by
  obtain ⟨_, _, _, _, _, _, h⟩ := h
  exact h.tab.len2
theorem InvB.both {X : World} (h : InvB w P R most B av l X) : Both w P R most X := by
  obtain ⟨_, _, _, _, _, _, h⟩ := h
  exact ⟨_, _, _, _, _, _, _, _, _, h⟩
theorem Both.inv {X : World} (h : Both w P R most X) : ∃ B ra rc l, InvB w P R most B (.slice ra l.length rc) l X := by
  obtain ⟨_, _, B, _, _, _, _, av, l, h⟩ := h
  obtain ⟨ra, rc, rfl⟩ := owns_slice h.ref.row
  exact ⟨B, ra, rc, l, _, _, _, _, _, _, h⟩

theorem len_inv {X : World} (h : InvB w P R most B av l X) : Calls Try.prog 16 #[ptr B] X fun e X' => e = .returned (.int .i64 l.length) ∧ X' = X := by
  obtain ⟨_, _, _, _, _, _, h⟩ := h
  exact len_any h.tab
theorem names_inv {X : World} (h : InvB w P R most B av l X) : Calls Try.prog 18 #[ptr B] X fun e X' => ∃ va vc, e = .returned (.slice va l.length vc) ∧ Hid (InvS w P R most B av l (.slice va l.length vc) X') ∧ X'.cell? ⟨P, 0, none⟩ = some (ptr B) ∧ X'.cell? ⟨R, 1, none⟩ = some av := by
  have h0 := h
  obtain ⟨_, _, _, _, _, _, h⟩ := h
  refine (names_any h.tab).mono ?_
  rintro e X' ⟨v, rfl, hr, hb⟩
  obtain ⟨va, vc, rfl⟩ := owns_slice hr
  have h1 := h0.below hb
  exact ⟨va, vc, rfl, hide ⟨h1, own_zero hr⟩, h1.rd.1, h1.rd.2⟩
theorem sameS_inv {X : World} {v : Value} (h : InvS w P R most B av l v X) : Calls Try.prog 17 #[v, av] X fun e X' => e = .returned (.bool true) ∧ Hid (InvB w P R most B av l X') ∧ X'.cell? ⟨P, 0, none⟩ = some (ptr B) ∧ X'.cell? ⟨R, 1, none⟩ = some av := by
  obtain ⟨h0, hr⟩ := h
  have h := h0
  obtain ⟨_, _, _, _, _, _, h⟩ := h
  refine (sameS_any hr h.ref.row h.tab.len2).mono ?_
  rintro e X' ⟨rfl, hb⟩
  have h1 := h0.below hb
  exact ⟨rfl, hide h1, h1.rd.1, h1.rd.2⟩
theorem sorted_a {X : World} (h : InvB w P R most B av l X) : Calls Try.prog 20 #[ptr B] X fun e X' => ∃ va vc, e = .returned (.slice va l.length vc) ∧ Hid (Inv1 w P R most B av l (.slice va l.length vc) X') ∧ X'.cell? ⟨P, 0, none⟩ = some (ptr B) ∧ X'.cell? ⟨R, 1, none⟩ = some av := by
  obtain ⟨_, _, _, _, _, _, h⟩ := h
  have h1 := h.fit1
  refine (sorted_any h1.tab fun g hg => .inr hg).mono ?_
  rintro e X' ⟨va, vc, n0, sv', rfl, hr, hn, hT, hf⟩
  have h2 := h1.step1 (hT.mono fun k _ h => h.1) hf
  refine ⟨va, vc, rfl, hide ⟨_, _, _, _, _, _, ⟨hT, h2.ref, h2.box, fun k a => h2.z12 k a.1, fun a => h2.zP1 a.1, h2.zP2, fun k a => h2.low1 k a.1, h2.low2, h2.lowP, h2.bel⟩, own_zero hr, ?_⟩, h2.rd.1, h2.rd.2⟩
  rintro g hg ⟨_, a⟩
  have := (hr.lt g hg).1
  omega
theorem sorted_b {X : World} {u : Value} (h : Inv1 w P R most B av l u X) : Calls Try.prog 20 #[ptr B] X fun e X' => ∃ va vc, e = .returned (.slice va l.length vc) ∧ Hid (Inv2 w P R most B av l (.slice va l.length vc) u X') ∧ X'.cell? ⟨P, 0, none⟩ = some (ptr B) ∧ X'.cell? ⟨R, 1, none⟩ = some av := by
  obtain ⟨Z1, _, _, _, _, _, h, hu, hz⟩ := h
  have h1 := h.fit1
  refine (sorted_any h1.tab fun g hg => .inr hg).mono ?_
  rintro e X' ⟨va, vc, n0, sv', rfl, hr, hn, hT, hf⟩
  have h2 := h1.step1 (hT.mono fun k _ h => h.1) hf
  refine ⟨va, vc, rfl, hide ⟨⟨_, _, _, _, _, _, h2⟩, own_zero hr, owns_keep hu fun g hg => hf.block g (owns_lt hu hg) ?_⟩, h2.rd.1, h2.rd.2⟩
  have := owns_lt hu hg
  rintro (a | a)
  · exact hz g hg a.1
  · omega
theorem rsorted_a {X : World} (h : InvB w P R most B av l X) : Calls Try.prog 21 #[ptr R] X fun e X' => ∃ va vc, e = .returned (.slice va l.length vc) ∧ Hid (Inv1 w P R most B av l (.slice va l.length vc) X') ∧ X'.cell? ⟨P, 0, none⟩ = some (ptr B) ∧ X'.cell? ⟨R, 1, none⟩ = some av := by
  obtain ⟨_, _, _, _, _, _, h⟩ := h
  have h1 := h.fit0
  refine (rsorted_any h1.ref h1.tab.nodup).mono ?_
  rintro e X' ⟨va, vc, rfl, hr, hb⟩
  have h2 := h1.below hb
  refine ⟨va, vc, rfl, hide ⟨_, _, _, _, _, _, h2, own_zero hr, ?_⟩, h2.rd.1, h2.rd.2⟩
  rintro g hg ⟨_, a⟩
  have := (hr.lt g hg).1
  omega
theorem rsorted_b {X : World} {u : Value} (h : Inv1 w P R most B av l u X) : Calls Try.prog 21 #[ptr R] X fun e X' => ∃ va vc, e = .returned (.slice va l.length vc) ∧ Hid (Inv2 w P R most B av l u (.slice va l.length vc) X') ∧ X'.cell? ⟨P, 0, none⟩ = some (ptr B) ∧ X'.cell? ⟨R, 1, none⟩ = some av := by
  obtain ⟨_, _, _, _, _, _, h, hu, _⟩ := h
  refine (rsorted_any h.ref h.tab.nodup).mono ?_
  rintro e X' ⟨va, vc, rfl, hr, hb⟩
  have h2 := h.below hb
  exact ⟨va, vc, rfl, hide ⟨⟨_, _, _, _, _, _, h2⟩, owns_keep hu fun g hg => hb.block g (owns_lt hu hg), own_zero hr⟩, h2.rd.1, h2.rd.2⟩
theorem sameI_inv {X : World} {v u : Value} (h : Inv2 w P R most B av l v u X) : Calls Try.prog 19 #[v, u] X fun e X' => e = .returned (.bool true) ∧ Hid (InvB w P R most B av l X') := by
  obtain ⟨h0, hv, hu⟩ := h
  refine (sameI_any (l := srt l) (by rw [srt_length]; exact hv) (by rw [srt_length]; exact hu) (by rw [srt_length]; exact h0.len)).mono ?_
  rintro e X' ⟨rfl, hb⟩
  exact ⟨rfl, hide (h0.below hb)⟩
theorem alive_inv {X : World} (h : InvB w P R most B av l X) : Calls Try.prog 14 #[] X fun e X' => e = .returned (.bool true) ∧ Hid (InvB w P R most B av l X') := by
  refine (alive_any X).mono ?_
  rintro e X' ⟨rfl, hb⟩
  exact ⟨rfl, hide (h.below hb)⟩
theorem does_inv {X : World} (h : Both w P R most X) (what : Int) (s : ByteArray) (n : Int) (hs : s.size ≤ maxLen) :
    Calls Try.prog 15 #[ptr P, ptr R, stepV what s n] X fun e X' => e = .returned (.bool true) ∧ ∃ B ra rc l, Hid (InvB w P R most B (.slice ra l.length rc) l X') ∧ X'.cell? ⟨P, 0, none⟩ = some (ptr B) ∧ X'.cell? ⟨R, 1, none⟩ = some (.slice ra l.length rc) ∧ l.length ≤ 4096 := by
  refine (does_any h what s n hs).mono ?_
  rintro e X' ⟨rfl, hB⟩
  obtain ⟨B, ra, rc, l, h1⟩ := hB.inv
  exact ⟨rfl, B, ra, rc, l, hide h1, h1.rd.1, h1.rd.2, h1.len⟩
end

/-- How both begin. -/
theorem two_start {w w1 : World} {B M : Nat} {n : Int} (hT : Tab (fun k => w.heap.size ≤ k) B M (.slice none 0 0) 0 (.slice none 0 0) n [] w1) (hb : Below w.heap.size w w1) :
    Both w w1.heap.size (w1.heap.size + 1) n ((w1.alloc (.cells #[ptr B] 22)).alloc (.cells #[.int .i64 n, .slice none 0 0] 41)) := by
  have hA : Below w1.heap.size w1 ((w1.alloc (.cells #[ptr B] 22)).alloc (.cells #[.int .i64 n, .slice none 0 0] 41)) := ((Below.refl _ _).alloc (Nat.le_refl _) _).alloc (by simp) _
  have hs := hb.size
  refine ⟨fun k => w.heap.size ≤ k ∧ k < w1.heap.size, fun k => k = w1.heap.size + 1, B, M, _, _, _, .slice none 0 0, [], (hT.mono fun k hk h => ⟨h, hk⟩).below hA, ⟨?_, ⟨rfl, .inl ⟨rfl, rfl⟩⟩, rfl, fun g hg => (by cases hg), (by have := hT.most1; simp; omega), hT.most2⟩, ?_, ?_, ?_, ?_, fun k a => a.1, ?_, hs, hb.trans (hA.mono hs)⟩
  · have := heap_alloc_new (w1.alloc (.cells #[ptr B] 22)) (.cells #[.int .i64 n, .slice none 0 0] 41)
    simpa using this
  · have h1 := heap_alloc_new w1 (.cells #[ptr B] 22)
    have h2 : Below (w1.alloc (.cells #[ptr B] 22)).heap.size (w1.alloc (.cells #[ptr B] 22)) ((w1.alloc (.cells #[ptr B] 22)).alloc (.cells #[.int .i64 n, .slice none 0 0] 41)) := (Below.refl _ _).alloc (Nat.le_refl _) _
    exact (h2.block _ (by simp)).trans h1
  · rintro k ⟨_, a⟩ rfl; omega
  · rintro ⟨_, a⟩; omega
  · intro a; simp at a
  · rintro k rfl; omega
end Go.Proofs.Ytijpdoclmplclaa
