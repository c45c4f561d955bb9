import Derived.Test.YtbpphlmakmeoaaaGreatDoorStatAll
namespace Go.Proofs.YtbpphlmakmeoaaaGreatDoor.Sy
open Go.RowKit
theorem Rows.append {α : Type} {Z : Nat → Prop} {e k : Nat} {c : World → α → List Value → Prop} {w : World} {l l' : List α} {v : Value} {xs ys : List Value} (hr : Row Z e k w v (l.length + l'.length) (xs ++ ys)) (hx : xs.length = l.length * k)
    (ho : ∀ i a, l[i]? = some a → c w a ((xs.drop (i * k)).take k)) (hn : ∀ i a, l'[i]? = some a → c w a ((ys.drop (i * k)).take k)) : Rows Z e k c w (l ++ l') v := by
 refine ⟨xs ++ ys, by simpa using hr, fun i b hi => ?_⟩
 by_cases h : i < l.length
 · rw [List.getElem?_append_left h] at hi
   have Aa : i * k + k ≤ l.length * k := by rw [← Nat.succ_mul]; exact Nat.mul_le_mul_right k h
   rw [List.drop_append_of_le_length (by omega), List.take_append_of_le_length (by simp; omega)]
   exact ho i b hi
 · rw [List.getElem?_append_right (by omega)] at hi
   have h2 := hn _ b hi
   have : i * k = xs.length + (i - l.length) * k := by rw [hx, ← Nat.add_mul]; congr 1; omega
   rw [this, List.drop_append, List.drop_of_length_le (by omega), List.nil_append, Nat.add_sub_cancel_left]
   exact h2
theorem uv {α : Type} {most : Int} {read : M α} {more : M Bool} : ∀ (f : Nat) (acc : List α) (s t : RS) (l : List α), iN most read more f acc s = .ok l t → acc.length ≤ l.length
 | 0, _, _, _, _, h => by cases h
 | f + 1, acc, s, t, l, h => by
  obtain ⟨b, u, h1, h2⟩ := eQ.1 (ku h)
  cases b with
  | false => have h3 := fc h2 rfl; cases h3; exact Nat.le_refl _
  | true =>
   obtain ⟨x, v, h3, h4⟩ := eQ.1 (fs h2 rfl)
   have := uv f _ _ _ _ h4
   simp at this
   omega
theorem yU {α : Type} {K : fQ} {most : Int} {read : M α} {more : M Bool} {s t : RS} {l : List α} (h : iP K most read more s = .ok l t) : 0 < l.length := by
 obtain ⟨x, u, h1, h2⟩ := eQ.1 h
 have := uv _ _ _ _ _ h2
 simp at this
 omega
theorem me {K : fQ} {most : Int} {s t : RS} {l : List (ee × ee)} (h : kl K most s = .ok l t) : 0 < l.length ∧ l.length + s.n ≤ t.n := by
 obtain ⟨Aa, u, h1, h2⟩ := eQ.1 h
 obtain ⟨_, u2, h3, h4⟩ := eQ.1 h2
 obtain ⟨Ab, u3, h5, h6⟩ := eQ.1 h4
 cases h6
 have p1 := yU h1
 have p2 := sY (fun s a u => go K s a u) (fun s b u => good_comma.le K s b u) h1
 have p3 := (ff [58]).le K _ _ _ h3
 have p4 := good_name.le K _ _ _ h5
 simp
 exact ⟨p1, by omega⟩
theorem A9 (n : Int) (h : -9223372036854775808 ≤ n ∧ n ≤ 9223372036854775807) : IntKind.i64.wrap n = n := by
 simp only [IntKind.wrap, IntKind.bits, IntKind.signed]
 simp
 omega
theorem xo {w : World} {l : List (ee × ee)} {ys : List Value} (hy : ys.length = l.length * 2) (hn : ∀ i a, l[i]? = some a → cM w a ((ys.drop (i * 2)).take 2)) : ∀ u ∈ ys, u.oneCell' = true := by
 intro u hu
 obtain ⟨j, hj, rfl⟩ := List.getElem_of_mem hu
 have hi : j / 2 < l.length := by omega
 have h := hn (j / 2) l[j / 2] (by simp [hi])
 unfold cM at h
 have Aa : j = j / 2 * 2 ∨ j = j / 2 * 2 + 1 := by omega
 rcases Aa with e | e
 · have h0 := congrArg (fun l => l[0]?) h
   simp only [List.getElem?_take, List.getElem?_drop] at h0
   simp at h0
   have : ys[j]? = ys[j / 2 * 2]? := by rw [← e]
   rw [h0] at this
   rw [List.getElem?_eq_getElem hj] at this
   simp at this
   rw [this]
   rfl
 · have h0 := congrArg (fun l => l[1]?) h
   simp only [List.getElem?_take, List.getElem?_drop] at h0
   simp at h0
   have : ys[j]? = ys[j / 2 * 2 + 1]? := by rw [← e]
   rw [h0] at this
   rw [List.getElem?_eq_getElem hj] at this
   simp at this
   rw [this]
   rfl
theorem wy {Z : Nat → Prop} {w : World} {l : List (ee × ee)} {v : Value} (h : Rows Z 124 2 cM w l v) (hl : 0 < l.length) :
    ∃ (mg mcap : Nat) (ys : List Value), v = .slice (some ⟨mg, 0, none⟩) l.length mcap ∧ ys.length = l.length * 2 ∧ (∀ j u, ys[j]? = some u → w.cell? ((⟨mg, 0, none⟩ : Addr).add j) = some u) ∧ (∀ u ∈ ys, u.oneCell' = true) ∧ ∀ i p, l[i]? = some p → cM w p ((ys.drop (i * 2)).take 2) := by
 obtain ⟨ys, h1, h2⟩ := h
 have hx := h1.1
 rcases h1.1.2 with ⟨_, h3⟩ | ⟨mg, mcap, Aa, rfl, _⟩
 · omega
 · exact ⟨mg, mcap, ys, rfl, hx.1, hx.cells (g := mg) rfl, xo hx.1 h2, h2⟩
theorem Row.toFq {R : Nat} {L : List fw} {N : Nat} {s : RS} {st : St9} {Z : Nat → Prop} {e k : Nat} {w w' : World} {v : Value} {n : Nat} {xs : List Value} (h : Row Z e k w v n xs) (hF : Fq R w w') (hr : Rd R L N s st w) (he : e ≠ 122) : w'.ownsRow 0 e k v n xs :=
 (h.keep (Kp.of_fq (T := [e]) hF hr (by simp; exact fun h => he h.symm)) (by simp)).1
theorem tz {R : Nat} {L : List fw} {N : Nat} {s2 t : RS} {st : St9} {S : StatM} {w2 w99 w4 : World} {ma : Option Addr} {mc gg cap : Nat} {xs ys : List Value} {a : List (ee × ee)} (hS : SRep R w2 st S) (hr : Rd R L N s2 st w2)
    (hform : st.members = .slice ma S.members.length mc) (hFd : Fq R w2 w99) (hR9 : Rd R L N t st w99) (hrow : Row (fV R st.kinds) 124 2 w2 st.members S.members.length xs)
    (hold : ∀ i p, S.members[i]? = some p → cM w2 p ((xs.drop (i * 2)).take 2)) (hy4 : ∀ i p, a[i]? = some p → cM w99 p ((ys.drop (i * 2)).take 2))
    (hown : w4.ownsRow 0 124 2 (.slice (some ⟨gg, 0, none⟩) (S.members.length + a.length) cap) (S.members.length + a.length) (xs ++ ys)) (hgrow : w99.grownBy w4 (Value.slice ma S.members.length mc).ownBlock)
    (hat : (Value.slice ma S.members.length mc).ownBlock = some gg ∨ gg = w99.heap.size) (v : Value) (hv : v = .slice (some ⟨gg, 0, none⟩) (S.members.length + a.length) cap) :
    Rd R L N t { st with members := v } (w4.setCell ⟨R, 7, none⟩ v) ∧ SRep R (w4.setCell ⟨R, 7, none⟩ v) { st with members := v } { S with members := S.members ++ a } ∧ Fi R w2 (w4.setCell ⟨R, 7, none⟩ v) := by
 rw [← hform] at hgrow hat
 have Ab := hr.lt
 have hF : Fg R st.members.ownBlock w2 w4 :=
  ⟨hgrow.os.trans hFd.os, hgrow.tape.trans hFd.tape, hgrow.output.trans hFd.output, Nat.le_trans hFd.size hgrow.size, fun k hk hn hne => (hgrow.block k (Nat.lt_of_lt_of_le hk hFd.size) hne).trans (hFd.block k hk hn)⟩
 have Ac : ∀ g, st.members.ownBlock = some g → R < g := fun g hg => (hrow.2 g hg).1
 have Ae : Rd R L N t st w4 := hR9.keep hgrow.size fun k hk => hgrow.block k (by have := hR9.lt; omega) fun e => by have := Ac k e.symm; omega
 have Ad : Row (fV R st.kinds) 124 2 w4 v (S.members.length + a.length) (xs ++ ys) := by
  subst hv
  refine ⟨hown, fun g hg => ?_⟩
  cases hg
  rcases hat with h1 | h1
  · exact hrow.2 gg h1
  · subst h1
    refine ⟨Nat.lt_of_lt_of_le Ab hFd.size, fun e => ?_⟩
    obtain ⟨zs, hz, _⟩ := hS.kinds
    have h1 := (hz.1.lt _ e.symm).2
    have h2 := hFd.size
    exact Nat.lt_irrefl _ (Nat.lt_of_lt_of_le h1 h2)
 have Aa : Rows (fV R st.kinds) 124 2 cM w4 (S.members ++ a) v := Rows.append Ad hrow.1.1 (fun i p hi => hold i p hi) (fun i p hi => hy4 i p hi)
 exact ⟨Ae.s7 v, SRep.put_members hS hr hF Aa, (hF.fi Ab Ac).set 7 v⟩
end Go.Proofs.YtbpphlmakmeoaaaGreatDoor.Sy
