/- A list with one thing more: what is known of the kinds of elements; what the growing leaves as it was. -/
import Derived.Test.YthnjmfkiohgkkaaGreatDoorData
import Derived.Test.YthnjmfkiohgkkaaGreatDoorBook
import Derived.Test.YthnjmfkiohgkkaaGreatDoorReadAll
import Derived.LoopTactic
import Derived.LoopN
namespace Go.Proofs.YthnjmfkiohgkkaaGreatDoor.Sy
open Go.RowKit

/-- What a call leaves as it was that writes a reader and a row. -/
structure Fg (R : Nat) (row : Option Nat) (w w' : World) : Prop where
  os : w'.os = w.os
  tape : w'.tape = w.tape
  output : w'.output = w.output
  size : w.heap.size ≤ w'.heap.size
  block : ∀ k, k < w.heap.size → k ≠ R → some k ≠ row → w'.heap[k]? = w.heap[k]?

theorem Fq.fg {R : Nat} {w w' : World} (h : Fq R w w') (row : Option Nat) : Fg R row w w' := ⟨h.os, h.tape, h.output, h.size, fun k hk hn _ => h.block k hk hn⟩
theorem Fg.fq {R : Nat} {w w' : World} (h : Fg R none w w') : Fq R w w' := ⟨h.os, h.tape, h.output, h.size, fun k hk hn => h.block k hk hn (by simp)⟩
theorem Fg.trans {R : Nat} {row : Option Nat} {a b c : World} (h : Fg R row a b) (k : Fg R row b c) : Fg R row a c :=
  ⟨k.os.trans h.os, k.tape.trans h.tape, k.output.trans h.output, Nat.le_trans h.size k.size, fun i hi hn hr => (k.block i (Nat.lt_of_lt_of_le hi h.size) hn hr).trans (h.block i hi hn hr)⟩

/-- What a call of add ends with. -/
def EndsA {α : Type} (R : Nat) (L : List Tok) (N : Nat) (st : St9) (w : World) (row : Option Nat) (rep : World → α → Value → Prop) (o : Out α) (e : Ending) (w' : World) : Prop :=
  match o with
  | .ok a t => ∃ v, e = .returned v ∧ rep w' a v ∧ Rd R L N t st w' ∧ Fg R row w w'
  | .bad c n => e = .panicked [{ v := .iface 58 (.agg #[.int .i64 c, .int .i64 (placeAt L N n)]), recovered := false }] ∧ Fq R w w'
theorem EndsA.split {α : Type} {R : Nat} {L : List Tok} {N : Nat} {st : St9} {w : World} {row : Option Nat} {rep : World → α → Value → Prop} {o : Out α} {e : Ending} {w' : World} (h : EndsA R L N st w row rep o e w') :
    (∃ a t v, o = .ok a t ∧ e = .returned v ∧ rep w' a v ∧ Rd R L N t st w' ∧ Fg R row w w') ∨
    (∃ c n, o = .bad c n ∧ e = .panicked [{ v := .iface 58 (.agg #[.int .i64 c, .int .i64 (placeAt L N n)]), recovered := false }] ∧ Fq R w w') := by
  cases o with
  | ok a t => obtain ⟨v, h⟩ := h; exact .inl ⟨a, t, v, rfl, h⟩
  | bad c n => exact .inr ⟨c, n, rfl, h⟩
theorem EndsA.of_ok {α : Type} {R : Nat} {L : List Tok} {N : Nat} {st : St9} {w : World} {row : Option Nat} {rep : World → α → Value → Prop} {o : Out α} {a : α} {t : RS} {v : Value} {w' : World} (ho : .ok a t = o) (hv : rep w' a v)
    (hR : Rd R L N t st w') (hF : Fg R row w w') : EndsA R L N st w row rep o (.returned v) w' := by subst ho; exact ⟨v, rfl, hv, hR, hF⟩
theorem EndsA.of_bad {α : Type} {R : Nat} {L : List Tok} {N : Nat} {st : St9} {w : World} {row : Option Nat} {rep : World → α → Value → Prop} {o : Out α} {c : Int} {n : Nat} {w' : World} (ho : .bad c n = o)
    (hF : Fq R w w') : EndsA R L N st w row rep o (.panicked [{ v := .iface 58 (.agg #[.int .i64 c, .int .i64 (placeAt L N n)]), recovered := false }]) w' := by subst ho; exact ⟨rfl, hF⟩

theorem info_parts' {P : Program} {e : Nat} {z : Option Value} {k b : Nat} (h : (P.info? e).map (fun i => (i.zero, i.size, i.bytes)) = some (z, k, b)) : ∃ i, P.info? e = some i ∧ i.zero = z ∧ i.size = k ∧ i.bytes = b := by
  cases hi : P.info? e with
  | none => rw [hi] at h; cases h
  | some i => rw [hi] at h; simp at h; exact ⟨i, rfl, h⟩

theorem slice_form {w : World} {e k : Nat} {v : Value} {n : Nat} {xs : List Value} (h : w.ownsRow 0 e k v n xs) : ∃ a c, v = .slice a n c := by
  rcases h.2 with ⟨h1, h2⟩ | ⟨g, cap, cur, h1, _⟩
  · exact ⟨none, 0, by rw [h1, h2]⟩
  · exact ⟨_, _, h1⟩

theorem rows_one {α : Type} {Z : Nat → Prop} {e k : Nat} {c : World → α → List Value → Prop} {w : World} {l : List α} {v : Value} (h : Rows Z e k c w l v) : v.oneCell' = true := by
  obtain ⟨xs, h1, _⟩ := h
  obtain ⟨a, c, rfl⟩ := slice_form h1.1
  rfl

/-- The cells of a new block. -/
theorem news_at {w : World} {cs : List Value} {t : Nat} {g : Nat} (hg : g = w.heap.size) : ∀ j u, cs[j]? = some u → (w.alloc (.cells cs.toArray t)).cell? ((⟨g, 0, none⟩ : Addr).add j) = some u := by
  subst hg
  intro j u hu
  rw [show ((⟨w.heap.size, 0, none⟩ : Addr).add j) = ⟨w.heap.size, j, none⟩ from by unfold Addr.add; split <;> simp_all, cell_of_row _ _ _ _ t _ (heap_alloc_new w _)]
  simpa using hu

/-- The thing that was read has been put behind the list. -/
theorem put_behind {α : Type} {R : Nat} {L : List Tok} {N : Nat} {t : RS} {st : St9} {Z : Nat → Prop} {e k : Nat} {c : World → α → List Value → Prop} {T : List Nat} {w w3 w4 : World} {l : List α} {tv : Value} {news : List Value} {a : α} {g cap ty : Nat}
    {xs : List Value} (hR : Rd R L N t st w) (hw3 : w3 = w.alloc (.cells news.toArray ty))
    (hrow : Row Z e k w tv l.length xs) (hold : ∀ i b, l[i]? = some b → c w b ((xs.drop (i * k)).take k)) (hnew : c w a news) (hn : news.length = k) (hz : ∀ g, w.heap.size ≤ g → Z g)
    (hc : ∀ w w' b ys, Kp T Z w w' → c w b ys → c w' b ys) (heT : e ∉ T) (hzR : ∀ g, Z g → R < g)
    (hown : w4.ownsRow 0 e k (.slice (some ⟨g, 0, none⟩) (l.length + 1) cap) (l.length + 1) (xs ++ news))
    (hg : (tv.ownBlock = some g ∧ w3.grownBy w4 (some g)) ∨ (g = w.heap.size + 1 ∧ w3.grownBy w4 none)) :
    Rows Z e k c w4 (l ++ [a]) (.slice (some ⟨g, 0, none⟩) (l.length + 1) cap) ∧ Rd R L N t st w4 ∧ Fg R tv.ownBlock w w4 := by
  have hsz : w3.heap.size = w.heap.size + 1 := by rw [hw3]; simp
  have hold3 : ∀ k, k < w.heap.size → w3.heap[k]? = w.heap[k]? := fun k hk => by rw [hw3]; exact Go.heap_alloc_old w _ hk
  have hown' : ∀ g, tv.ownBlock = some g → ∃ cur, w.heap[g]? = some (.cells cur e (0, 0)) := by
    intro g hg
    rcases hrow.1.2 with ⟨h1, _⟩ | ⟨g', cap, cur, h1, _, h3, _⟩
    · rw [h1] at hg; cases hg
    · rw [h1] at hg; cases hg; exact ⟨cur, h3⟩
  have hlt : ∀ g, tv.ownBlock = some g → g < w.heap.size := fun g hg => (hrow.1.lt g hg).2
  obtain ⟨row, hr1, hr2⟩ : ∃ row, (row = none ∨ row = tv.ownBlock) ∧ w3.grownBy w4 row := by
    rcases hg with ⟨h1, h2⟩ | ⟨_, h2⟩
    · exact ⟨some g, .inr h1.symm, h2⟩
    · exact ⟨none, .inl rfl, h2⟩
  have hF : Fg R tv.ownBlock w w4 := by
    refine ⟨hr2.os.trans (by rw [hw3]; rfl), hr2.tape.trans (by rw [hw3]; rfl), hr2.output.trans (by rw [hw3]; rfl), by have := hr2.size; omega, fun k hk _ hne => ?_⟩
    rw [hr2.block k (by omega) (by rcases hr1 with rfl | rfl <;> first | exact hne | simp), hold3 k hk]
  have hK : Kp T Z w w4 := by
    have h1 : Kp T Z w w3 := Kp.of_below ⟨by rw [hw3]; rfl, by rw [hw3]; rfl, by rw [hw3]; rfl, by omega, fun k hk => hold3 k hk⟩
    refine h1.trans (Kp.of_grown hr2 (fun g hg => ?_) heT)
    rcases hr1 with rfl | rfl
    · cases hg
    · obtain ⟨cur, hcur⟩ := hown' g hg
      exact ⟨cur, (hold3 g (hlt g hg)).trans hcur⟩
  refine ⟨Rows.snoc ⟨hown, fun g' hg' => ?_⟩ hrow.1.1 hn (fun i b hi => hc _ _ _ _ hK (hold i b hi)) (hc _ _ _ _ hK hnew), hR.keep hF.size fun k hk => ?_, hF⟩
  · simp only [Value.ownBlock, Option.some.injEq] at hg'
    subst hg'
    rcases hg with ⟨h1, _⟩ | ⟨h1, _⟩
    · exact hrow.2 _ h1
    · exact hz _ (by omega)
  · have hRl := hR.lt
    exact (hr2.block k (by omega) (by
      rcases hr1 with rfl | rfl
      · simp
      · intro h'
        have := hzR k (hrow.2 k h'.symm)
        omega)).trans (hold3 k (by omega))
end Go.Proofs.YthnjmfkiohgkkaaGreatDoor.Sy

namespace Go.Proofs.YthnjmfkiohgkkaaGreatDoor.Sy
open Go.RowKit

theorem info_string : (Tryz.prog.info? 9).map (fun i => (i.zero, i.size, i.bytes)) = some (some (.string ⟨#[]⟩), 1, 16) := by kernel_rfl
theorem info_money : (Tryz.prog.info? 93).map (fun i => (i.zero, i.size, i.bytes)) = some (some (.int .i64 0), 1, 8) := by kernel_rfl
theorem info_term : (Tryz.prog.info? 109).map (fun i => (i.zero, i.size, i.bytes)) = some (some (.agg #[.int .i64 0, .string ⟨#[]⟩, .slice none 0 0, .int .i64 0]), 4, 56) := by kernel_rfl

theorem info_prem : (Tryz.prog.info? 107).map (fun i => (i.zero, i.size, i.bytes)) = some (some (.agg #[.int .i64 0, .bool false, .string ⟨#[]⟩, .slice none 0 0, .bool false, .int .i64 0, .slice none 0 0, .int .i64 0, .slice none 0 0, .string ⟨#[]⟩, .string ⟨#[]⟩]), 11, 160) := by kernel_rfl

section
variable (R : Nat) (L : List Tok) (N : Nat) (s : RS) (st : St9) (w : World)

set_option maxRecDepth 100000 in
set_option maxHeartbeats 1600000 in
theorem add_string_name (readM : M Bytes) (CR : ∀ s w, Rd R L N s st w → Calls Tryz.prog 72 #[.pointer (some ⟨R, 0, none⟩)] w (Ends R L N st w repS (readM s)))
    (Z : Nat → Prop) (l : List Bytes) (tv : Value) (most : Int) (hl : l.length ≤ 70000) (hT : Rows Z 9 1 cS w l tv) (hz : ∀ g, w.heap.size ≤ g → Z g) (hzR : ∀ g, Z g → R < g)
    (h : Rd R L N s st w) (o : Out Bytes) (ho : addM l.length most readM s = o) :
    Calls Tryz.prog 71 #[.pointer (some ⟨R, 0, none⟩), tv, .int .i64 most, .func (.func 72) #[.pointer (some ⟨R, 0, none⟩)] #[]] w
      (EndsA R L N st w tv.ownBlock (fun w' a v => Rows Z 9 1 cS w' (l ++ [a]) v) o) := by
  obtain ⟨iM, hiM, zM0, zM1, zM2⟩ := info_parts' info_string
  have HO := hide (set_go ho)
  have H := hide h
  obtain ⟨xs, hrow, hold⟩ := hT
  have HROW := hide hrow
  have HOLD := hide hold
  have HZ := hide hz
  have HZR := hide hzR
  have CR := hide CR
  obtain ⟨ta, tc, rfl⟩ := slice_form hrow.1
  have c3 := h.c3
  have f3 := h.frz 3
  have hlt := h.lt
  clear h ho hrow hold hz hzR
  generalize hfl : (s.full || decide (most ≤ (l.length : Int))) = fl at HO
  have HS := hide (H.out.setFull fl)
  cases hsf : s.full with
  | true =>
    rw [hsf] at c3
    have hb : true = fl := by rw [hsf] at hfl; simpa using hfl
    subst hb
    clear hsf hfl
    go_enter Tryz.func71, Tryz.ntmps71
    go_wp2_with fail
    refine (CR.out _ _ HS.out).mono ?_
    intro e w2 he
    rcases he.split with ⟨a, t, v, ho, rfl, hv, hR, hF⟩ | ⟨c, m, ho, rfl, hF⟩
    rotate_left 1
    · exact on_panic rfl (.of_bad (ho.symm.trans HO.out) (((Fq.refl R w).set 3 _).trans hF))
    have HO := hide (ho.symm.trans HO.out)
    have HR := hide hR
    have HF := hide (((Fq.refl R w).set 3 _).trans hF)
    have HZ2 : Hid (∀ g, w2.heap.size ≤ g → Z g) := hide fun g hg => HZ.out g (Nat.le_trans HF.out.size hg)
    have HROW2 := hide (HROW.out.keep (Kp.of_fq (T := [9]) HF.out H.out (by decide)) (by decide))
    have HC : Hid (∀ w w' b ys, Kp [] Z w w' → cS w b ys → cS w' b ys) := hide (fun _ _ _ _ _ h => h)
    have HOLD2 : Hid (∀ i b, l[i]? = some b → cS w2 b ((xs.drop (i * 1)).take 1)) := hide fun i b hi => HC.out _ _ _ _ (Kp.of_fq HF.out H.out (by decide)) (HOLD.out i b hi)
    cases hv
    clear he ho hR hF CR HS HROW HOLD H
    go_wp2_with (at_builtin; go_must (refine wpList_append_two _ rfl _ _ 22 rfl 0 9 iM _ 1 16 Tryz.underlying22 hiM zM0 zM1 zM2 rfl (by decide) _ _ _ rfl (HROW2.out.1.alloc _) ⟨w2.heap.size, 0, none⟩ 1 [.string ⟨a.toArray⟩] rfl rfl (news_at rfl) (by simp [Value.oneCell']) (by unfold maxLen; omega) (by omega) (Nat.zero_le _) ?_))
    intro g cap w4 hown hg
    obtain ⟨p1, p2, p3⟩ := put_behind (a := a) HR.out rfl HROW2.out HOLD2.out (rfl) rfl HZ2.out HC.out (by decide) HZR.out hown hg
    have P1 := hide p1
    have P2 := hide p2
    have P3 := hide ((HF.out.fg _).trans p3)
    clear p1 p2 p3 hown hg HROW2 HOLD2 HR HF
    go_wp2_with fail
    go_ret
    exact .of_ok HO.out P1.out P2.out P3.out
  | false =>
    rw [hsf] at c3
    have hb : (decide (most ≤ (l.length : Int))) = fl := by rw [hsf] at hfl; simpa using hfl
    clear hsf hfl
    go_enter Tryz.func71, Tryz.ntmps71
    go_wp2_with fail
    refine (CR.out _ _ HS.out).mono ?_
    intro e w2 he
    rcases he.split with ⟨a, t, v, ho, rfl, hv, hR, hF⟩ | ⟨c, m, ho, rfl, hF⟩
    rotate_left 1
    · exact on_panic rfl (.of_bad (ho.symm.trans HO.out) (((Fq.refl R w).set 3 _).trans hF))
    have HO := hide (ho.symm.trans HO.out)
    have HR := hide hR
    have HF := hide (((Fq.refl R w).set 3 _).trans hF)
    have HZ2 : Hid (∀ g, w2.heap.size ≤ g → Z g) := hide fun g hg => HZ.out g (Nat.le_trans HF.out.size hg)
    have HROW2 := hide (HROW.out.keep (Kp.of_fq (T := [9]) HF.out H.out (by decide)) (by decide))
    have HC : Hid (∀ w w' b ys, Kp [] Z w w' → cS w b ys → cS w' b ys) := hide (fun _ _ _ _ _ h => h)
    have HOLD2 : Hid (∀ i b, l[i]? = some b → cS w2 b ((xs.drop (i * 1)).take 1)) := hide fun i b hi => HC.out _ _ _ _ (Kp.of_fq HF.out H.out (by decide)) (HOLD.out i b hi)
    cases hv
    clear he ho hR hF CR HS HROW HOLD H
    go_wp2_with (at_builtin; go_must (refine wpList_append_two _ rfl _ _ 22 rfl 0 9 iM _ 1 16 Tryz.underlying22 hiM zM0 zM1 zM2 rfl (by decide) _ _ _ rfl (HROW2.out.1.alloc _) ⟨w2.heap.size, 0, none⟩ 1 [.string ⟨a.toArray⟩] rfl rfl (news_at rfl) (by simp [Value.oneCell']) (by unfold maxLen; omega) (by omega) (Nat.zero_le _) ?_))
    intro g cap w4 hown hg
    obtain ⟨p1, p2, p3⟩ := put_behind (a := a) HR.out rfl HROW2.out HOLD2.out (rfl) rfl HZ2.out HC.out (by decide) HZR.out hown hg
    have P1 := hide p1
    have P2 := hide p2
    have P3 := hide ((HF.out.fg _).trans p3)
    clear p1 p2 p3 hown hg HROW2 HOLD2 HR HF
    go_wp2_with fail
    go_ret
    exact .of_ok HO.out P1.out P2.out P3.out

set_option maxRecDepth 100000 in
set_option maxHeartbeats 1600000 in
theorem add_string_arg (readM : M Bytes) (CR : ∀ s w, Rd R L N s st w → Calls Tryz.prog 159 #[.pointer (some ⟨R, 0, none⟩)] w (Ends R L N st w repS (readM s)))
    (Z : Nat → Prop) (l : List Bytes) (tv : Value) (most : Int) (hl : l.length ≤ 70000) (hT : Rows Z 9 1 cS w l tv) (hz : ∀ g, w.heap.size ≤ g → Z g) (hzR : ∀ g, Z g → R < g)
    (h : Rd R L N s st w) (o : Out Bytes) (ho : addM l.length most readM s = o) :
    Calls Tryz.prog 71 #[.pointer (some ⟨R, 0, none⟩), tv, .int .i64 most, .func (.func 159) #[.pointer (some ⟨R, 0, none⟩)] #[]] w
      (EndsA R L N st w tv.ownBlock (fun w' a v => Rows Z 9 1 cS w' (l ++ [a]) v) o) := by
  obtain ⟨iM, hiM, zM0, zM1, zM2⟩ := info_parts' info_string
  have HO := hide (set_go ho)
  have H := hide h
  obtain ⟨xs, hrow, hold⟩ := hT
  have HROW := hide hrow
  have HOLD := hide hold
  have HZ := hide hz
  have HZR := hide hzR
  have CR := hide CR
  obtain ⟨ta, tc, rfl⟩ := slice_form hrow.1
  have c3 := h.c3
  have f3 := h.frz 3
  have hlt := h.lt
  clear h ho hrow hold hz hzR
  generalize hfl : (s.full || decide (most ≤ (l.length : Int))) = fl at HO
  have HS := hide (H.out.setFull fl)
  cases hsf : s.full with
  | true =>
    rw [hsf] at c3
    have hb : true = fl := by rw [hsf] at hfl; simpa using hfl
    subst hb
    clear hsf hfl
    go_enter Tryz.func71, Tryz.ntmps71
    go_wp2_with fail
    refine (CR.out _ _ HS.out).mono ?_
    intro e w2 he
    rcases he.split with ⟨a, t, v, ho, rfl, hv, hR, hF⟩ | ⟨c, m, ho, rfl, hF⟩
    rotate_left 1
    · exact on_panic rfl (.of_bad (ho.symm.trans HO.out) (((Fq.refl R w).set 3 _).trans hF))
    have HO := hide (ho.symm.trans HO.out)
    have HR := hide hR
    have HF := hide (((Fq.refl R w).set 3 _).trans hF)
    have HZ2 : Hid (∀ g, w2.heap.size ≤ g → Z g) := hide fun g hg => HZ.out g (Nat.le_trans HF.out.size hg)
    have HROW2 := hide (HROW.out.keep (Kp.of_fq (T := [9]) HF.out H.out (by decide)) (by decide))
    have HC : Hid (∀ w w' b ys, Kp [] Z w w' → cS w b ys → cS w' b ys) := hide (fun _ _ _ _ _ h => h)
    have HOLD2 : Hid (∀ i b, l[i]? = some b → cS w2 b ((xs.drop (i * 1)).take 1)) := hide fun i b hi => HC.out _ _ _ _ (Kp.of_fq HF.out H.out (by decide)) (HOLD.out i b hi)
    cases hv
    clear he ho hR hF CR HS HROW HOLD H
    go_wp2_with (at_builtin; go_must (refine wpList_append_two _ rfl _ _ 22 rfl 0 9 iM _ 1 16 Tryz.underlying22 hiM zM0 zM1 zM2 rfl (by decide) _ _ _ rfl (HROW2.out.1.alloc _) ⟨w2.heap.size, 0, none⟩ 1 [.string ⟨a.toArray⟩] rfl rfl (news_at rfl) (by simp [Value.oneCell']) (by unfold maxLen; omega) (by omega) (Nat.zero_le _) ?_))
    intro g cap w4 hown hg
    obtain ⟨p1, p2, p3⟩ := put_behind (a := a) HR.out rfl HROW2.out HOLD2.out (rfl) rfl HZ2.out HC.out (by decide) HZR.out hown hg
    have P1 := hide p1
    have P2 := hide p2
    have P3 := hide ((HF.out.fg _).trans p3)
    clear p1 p2 p3 hown hg HROW2 HOLD2 HR HF
    go_wp2_with fail
    go_ret
    exact .of_ok HO.out P1.out P2.out P3.out
  | false =>
    rw [hsf] at c3
    have hb : (decide (most ≤ (l.length : Int))) = fl := by rw [hsf] at hfl; simpa using hfl
    clear hsf hfl
    go_enter Tryz.func71, Tryz.ntmps71
    go_wp2_with fail
    refine (CR.out _ _ HS.out).mono ?_
    intro e w2 he
    rcases he.split with ⟨a, t, v, ho, rfl, hv, hR, hF⟩ | ⟨c, m, ho, rfl, hF⟩
    rotate_left 1
    · exact on_panic rfl (.of_bad (ho.symm.trans HO.out) (((Fq.refl R w).set 3 _).trans hF))
    have HO := hide (ho.symm.trans HO.out)
    have HR := hide hR
    have HF := hide (((Fq.refl R w).set 3 _).trans hF)
    have HZ2 : Hid (∀ g, w2.heap.size ≤ g → Z g) := hide fun g hg => HZ.out g (Nat.le_trans HF.out.size hg)
    have HROW2 := hide (HROW.out.keep (Kp.of_fq (T := [9]) HF.out H.out (by decide)) (by decide))
    have HC : Hid (∀ w w' b ys, Kp [] Z w w' → cS w b ys → cS w' b ys) := hide (fun _ _ _ _ _ h => h)
    have HOLD2 : Hid (∀ i b, l[i]? = some b → cS w2 b ((xs.drop (i * 1)).take 1)) := hide fun i b hi => HC.out _ _ _ _ (Kp.of_fq HF.out H.out (by decide)) (HOLD.out i b hi)
    cases hv
    clear he ho hR hF CR HS HROW HOLD H
    go_wp2_with (at_builtin; go_must (refine wpList_append_two _ rfl _ _ 22 rfl 0 9 iM _ 1 16 Tryz.underlying22 hiM zM0 zM1 zM2 rfl (by decide) _ _ _ rfl (HROW2.out.1.alloc _) ⟨w2.heap.size, 0, none⟩ 1 [.string ⟨a.toArray⟩] rfl rfl (news_at rfl) (by simp [Value.oneCell']) (by unfold maxLen; omega) (by omega) (Nat.zero_le _) ?_))
    intro g cap w4 hown hg
    obtain ⟨p1, p2, p3⟩ := put_behind (a := a) HR.out rfl HROW2.out HOLD2.out (rfl) rfl HZ2.out HC.out (by decide) HZR.out hown hg
    have P1 := hide p1
    have P2 := hide p2
    have P3 := hide ((HF.out.fg _).trans p3)
    clear p1 p2 p3 hown hg HROW2 HOLD2 HR HF
    go_wp2_with fail
    go_ret
    exact .of_ok HO.out P1.out P2.out P3.out

set_option maxRecDepth 100000 in
set_option maxHeartbeats 1600000 in
theorem add_money_money (readM : M Int) (CR : ∀ s w, Rd R L N s st w → Calls Tryz.prog 126 #[.pointer (some ⟨R, 0, none⟩)] w (Ends R L N st w repI (readM s)))
    (Z : Nat → Prop) (l : List Int) (tv : Value) (most : Int) (hl : l.length ≤ 70000) (hT : Rows Z 93 1 cI w l tv) (hz : ∀ g, w.heap.size ≤ g → Z g) (hzR : ∀ g, Z g → R < g)
    (h : Rd R L N s st w) (o : Out Int) (ho : addM l.length most readM s = o) :
    Calls Tryz.prog 151 #[.pointer (some ⟨R, 0, none⟩), tv, .int .i64 most, .func (.func 126) #[.pointer (some ⟨R, 0, none⟩)] #[]] w
      (EndsA R L N st w tv.ownBlock (fun w' a v => Rows Z 93 1 cI w' (l ++ [a]) v) o) := by
  obtain ⟨iM, hiM, zM0, zM1, zM2⟩ := info_parts' info_money
  have HO := hide (set_go ho)
  have H := hide h
  obtain ⟨xs, hrow, hold⟩ := hT
  have HROW := hide hrow
  have HOLD := hide hold
  have HZ := hide hz
  have HZR := hide hzR
  have CR := hide CR
  obtain ⟨ta, tc, rfl⟩ := slice_form hrow.1
  have c3 := h.c3
  have f3 := h.frz 3
  have hlt := h.lt
  clear h ho hrow hold hz hzR
  generalize hfl : (s.full || decide (most ≤ (l.length : Int))) = fl at HO
  have HS := hide (H.out.setFull fl)
  cases hsf : s.full with
  | true =>
    rw [hsf] at c3
    have hb : true = fl := by rw [hsf] at hfl; simpa using hfl
    subst hb
    clear hsf hfl
    go_enter Tryz.func151, Tryz.ntmps151
    go_wp2_with fail
    refine (CR.out _ _ HS.out).mono ?_
    intro e w2 he
    rcases he.split with ⟨a, t, v, ho, rfl, hv, hR, hF⟩ | ⟨c, m, ho, rfl, hF⟩
    rotate_left 1
    · exact on_panic rfl (.of_bad (ho.symm.trans HO.out) (((Fq.refl R w).set 3 _).trans hF))
    have HO := hide (ho.symm.trans HO.out)
    have HR := hide hR
    have HF := hide (((Fq.refl R w).set 3 _).trans hF)
    have HZ2 : Hid (∀ g, w2.heap.size ≤ g → Z g) := hide fun g hg => HZ.out g (Nat.le_trans HF.out.size hg)
    have HROW2 := hide (HROW.out.keep (Kp.of_fq (T := [93]) HF.out H.out (by decide)) (by decide))
    have HC : Hid (∀ w w' b ys, Kp [] Z w w' → cI w b ys → cI w' b ys) := hide (fun _ _ _ _ _ h => h)
    have HOLD2 : Hid (∀ i b, l[i]? = some b → cI w2 b ((xs.drop (i * 1)).take 1)) := hide fun i b hi => HC.out _ _ _ _ (Kp.of_fq HF.out H.out (by decide)) (HOLD.out i b hi)
    cases hv
    clear he ho hR hF CR HS HROW HOLD H
    go_wp2_with (at_builtin; go_must (refine wpList_append_two _ rfl _ _ 90 rfl 0 93 iM _ 1 8 Tryz.underlying90 hiM zM0 zM1 zM2 rfl (by decide) _ _ _ rfl (HROW2.out.1.alloc _) ⟨w2.heap.size, 0, none⟩ 1 [.int .i64 a] rfl rfl (news_at rfl) (by simp [Value.oneCell']) (by unfold maxLen; omega) (by omega) (Nat.zero_le _) ?_))
    intro g cap w4 hown hg
    obtain ⟨p1, p2, p3⟩ := put_behind (a := a) HR.out rfl HROW2.out HOLD2.out (rfl) rfl HZ2.out HC.out (by decide) HZR.out hown hg
    have P1 := hide p1
    have P2 := hide p2
    have P3 := hide ((HF.out.fg _).trans p3)
    clear p1 p2 p3 hown hg HROW2 HOLD2 HR HF
    go_wp2_with fail
    go_ret
    exact .of_ok HO.out P1.out P2.out P3.out
  | false =>
    rw [hsf] at c3
    have hb : (decide (most ≤ (l.length : Int))) = fl := by rw [hsf] at hfl; simpa using hfl
    clear hsf hfl
    go_enter Tryz.func151, Tryz.ntmps151
    go_wp2_with fail
    refine (CR.out _ _ HS.out).mono ?_
    intro e w2 he
    rcases he.split with ⟨a, t, v, ho, rfl, hv, hR, hF⟩ | ⟨c, m, ho, rfl, hF⟩
    rotate_left 1
    · exact on_panic rfl (.of_bad (ho.symm.trans HO.out) (((Fq.refl R w).set 3 _).trans hF))
    have HO := hide (ho.symm.trans HO.out)
    have HR := hide hR
    have HF := hide (((Fq.refl R w).set 3 _).trans hF)
    have HZ2 : Hid (∀ g, w2.heap.size ≤ g → Z g) := hide fun g hg => HZ.out g (Nat.le_trans HF.out.size hg)
    have HROW2 := hide (HROW.out.keep (Kp.of_fq (T := [93]) HF.out H.out (by decide)) (by decide))
    have HC : Hid (∀ w w' b ys, Kp [] Z w w' → cI w b ys → cI w' b ys) := hide (fun _ _ _ _ _ h => h)
    have HOLD2 : Hid (∀ i b, l[i]? = some b → cI w2 b ((xs.drop (i * 1)).take 1)) := hide fun i b hi => HC.out _ _ _ _ (Kp.of_fq HF.out H.out (by decide)) (HOLD.out i b hi)
    cases hv
    clear he ho hR hF CR HS HROW HOLD H
    go_wp2_with (at_builtin; go_must (refine wpList_append_two _ rfl _ _ 90 rfl 0 93 iM _ 1 8 Tryz.underlying90 hiM zM0 zM1 zM2 rfl (by decide) _ _ _ rfl (HROW2.out.1.alloc _) ⟨w2.heap.size, 0, none⟩ 1 [.int .i64 a] rfl rfl (news_at rfl) (by simp [Value.oneCell']) (by unfold maxLen; omega) (by omega) (Nat.zero_le _) ?_))
    intro g cap w4 hown hg
    obtain ⟨p1, p2, p3⟩ := put_behind (a := a) HR.out rfl HROW2.out HOLD2.out (rfl) rfl HZ2.out HC.out (by decide) HZR.out hown hg
    have P1 := hide p1
    have P2 := hide p2
    have P3 := hide ((HF.out.fg _).trans p3)
    clear p1 p2 p3 hown hg HROW2 HOLD2 HR HF
    go_wp2_with fail
    go_ret
    exact .of_ok HO.out P1.out P2.out P3.out

set_option maxRecDepth 100000 in
set_option maxHeartbeats 1600000 in
theorem add_term_term (readM : M TermM) (CR : ∀ s w, Rd R L N s st w → Calls Tryz.prog 196 #[.pointer (some ⟨R, 0, none⟩)] w (Ends R L N st w (vTerm (New w)) (readM s)))
    (Z : Nat → Prop) (l : List TermM) (tv : Value) (most : Int) (hl : l.length ≤ 70000) (hT : Rows Z 109 4 (cTerm Z) w l tv) (hz : ∀ g, w.heap.size ≤ g → Z g) (hzR : ∀ g, Z g → R < g)
    (h : Rd R L N s st w) (o : Out TermM) (ho : addM l.length most readM s = o) :
    Calls Tryz.prog 213 #[.pointer (some ⟨R, 0, none⟩), tv, .int .i64 most, .func (.func 196) #[.pointer (some ⟨R, 0, none⟩)] #[]] w
      (EndsA R L N st w tv.ownBlock (fun w' a v => Rows Z 109 4 (cTerm Z) w' (l ++ [a]) v) o) := by
  obtain ⟨iM, hiM, zM0, zM1, zM2⟩ := info_parts' info_term
  have HO := hide (set_go ho)
  have H := hide h
  obtain ⟨xs, hrow, hold⟩ := hT
  have HROW := hide hrow
  have HOLD := hide hold
  have HZ := hide hz
  have HZR := hide hzR
  have CR := hide CR
  obtain ⟨ta, tc, rfl⟩ := slice_form hrow.1
  have c3 := h.c3
  have f3 := h.frz 3
  have hlt := h.lt
  clear h ho hrow hold hz hzR
  generalize hfl : (s.full || decide (most ≤ (l.length : Int))) = fl at HO
  have HS := hide (H.out.setFull fl)
  cases hsf : s.full with
  | true =>
    rw [hsf] at c3
    have hb : true = fl := by rw [hsf] at hfl; simpa using hfl
    subst hb
    clear hsf hfl
    go_enter Tryz.func213, Tryz.ntmps213
    go_wp2_with fail
    refine (CR.out _ _ HS.out).mono ?_
    intro e w2 he
    rcases he.split with ⟨a, t, v, ho, rfl, hv, hR, hF⟩ | ⟨c, m, ho, rfl, hF⟩
    rotate_left 1
    · exact on_panic rfl (.of_bad (ho.symm.trans HO.out) (((Fq.refl R w).set 3 _).trans hF))
    have HO := hide (ho.symm.trans HO.out)
    have HR := hide hR
    have HF := hide (((Fq.refl R w).set 3 _).trans hF)
    have HZ2 : Hid (∀ g, w2.heap.size ≤ g → Z g) := hide fun g hg => HZ.out g (Nat.le_trans HF.out.size hg)
    have HROW2 := hide (HROW.out.keep (Kp.of_fq (T := [109]) HF.out H.out (by decide)) (by decide))
    have HC : Hid (∀ w w' b ys, Kp [9] Z w w' → (cTerm Z) w b ys → (cTerm Z) w' b ys) := hide (fun _ _ _ _ hk h => h.keep hk (by decide))
    have HOLD2 : Hid (∀ i b, l[i]? = some b → (cTerm Z) w2 b ((xs.drop (i * 4)).take 4)) := hide fun i b hi => HC.out _ _ _ _ (Kp.of_fq HF.out H.out (by decide)) (HOLD.out i b hi)
    obtain ⟨av, rfl, hv⟩ := hv
    have HV := hide (Strs.mono hv fun g hg => HZ.out g (by simpa [New] using hg))
    clear hv
    clear he ho hR hF CR HS HROW HOLD H
    go_wp2_with (at_builtin; go_must (refine wpList_append_two _ rfl _ _ 102 rfl 0 109 iM _ 4 56 Tryz.underlying102 hiM zM0 zM1 zM2 rfl (by decide) _ _ _ rfl (HROW2.out.1.alloc _) ⟨w2.heap.size, 0, none⟩ 1 [.int .i64 a.coef, .string ⟨a.pred.toArray⟩, av, .int .i64 a.value] rfl rfl (news_at rfl) (by intro u hu; simp only [List.mem_cons, List.not_mem_nil, or_false] at hu; rcases hu with rfl | rfl | rfl | rfl <;> first | rfl | exact rows_one HV.out) (by unfold maxLen; omega) (by omega) (Nat.zero_le _) ?_))
    intro g cap w4 hown hg
    obtain ⟨p1, p2, p3⟩ := put_behind (a := a) HR.out rfl HROW2.out HOLD2.out (⟨av, rfl, HV.out⟩) rfl HZ2.out HC.out (by decide) HZR.out hown hg
    have P1 := hide p1
    have P2 := hide p2
    have P3 := hide ((HF.out.fg _).trans p3)
    clear p1 p2 p3 hown hg HROW2 HOLD2 HR HF
    go_wp2_with fail
    go_ret
    exact .of_ok HO.out P1.out P2.out P3.out
  | false =>
    rw [hsf] at c3
    have hb : (decide (most ≤ (l.length : Int))) = fl := by rw [hsf] at hfl; simpa using hfl
    clear hsf hfl
    go_enter Tryz.func213, Tryz.ntmps213
    go_wp2_with fail
    refine (CR.out _ _ HS.out).mono ?_
    intro e w2 he
    rcases he.split with ⟨a, t, v, ho, rfl, hv, hR, hF⟩ | ⟨c, m, ho, rfl, hF⟩
    rotate_left 1
    · exact on_panic rfl (.of_bad (ho.symm.trans HO.out) (((Fq.refl R w).set 3 _).trans hF))
    have HO := hide (ho.symm.trans HO.out)
    have HR := hide hR
    have HF := hide (((Fq.refl R w).set 3 _).trans hF)
    have HZ2 : Hid (∀ g, w2.heap.size ≤ g → Z g) := hide fun g hg => HZ.out g (Nat.le_trans HF.out.size hg)
    have HROW2 := hide (HROW.out.keep (Kp.of_fq (T := [109]) HF.out H.out (by decide)) (by decide))
    have HC : Hid (∀ w w' b ys, Kp [9] Z w w' → (cTerm Z) w b ys → (cTerm Z) w' b ys) := hide (fun _ _ _ _ hk h => h.keep hk (by decide))
    have HOLD2 : Hid (∀ i b, l[i]? = some b → (cTerm Z) w2 b ((xs.drop (i * 4)).take 4)) := hide fun i b hi => HC.out _ _ _ _ (Kp.of_fq HF.out H.out (by decide)) (HOLD.out i b hi)
    obtain ⟨av, rfl, hv⟩ := hv
    have HV := hide (Strs.mono hv fun g hg => HZ.out g (by simpa [New] using hg))
    clear hv
    clear he ho hR hF CR HS HROW HOLD H
    go_wp2_with (at_builtin; go_must (refine wpList_append_two _ rfl _ _ 102 rfl 0 109 iM _ 4 56 Tryz.underlying102 hiM zM0 zM1 zM2 rfl (by decide) _ _ _ rfl (HROW2.out.1.alloc _) ⟨w2.heap.size, 0, none⟩ 1 [.int .i64 a.coef, .string ⟨a.pred.toArray⟩, av, .int .i64 a.value] rfl rfl (news_at rfl) (by intro u hu; simp only [List.mem_cons, List.not_mem_nil, or_false] at hu; rcases hu with rfl | rfl | rfl | rfl <;> first | rfl | exact rows_one HV.out) (by unfold maxLen; omega) (by omega) (Nat.zero_le _) ?_))
    intro g cap w4 hown hg
    obtain ⟨p1, p2, p3⟩ := put_behind (a := a) HR.out rfl HROW2.out HOLD2.out (⟨av, rfl, HV.out⟩) rfl HZ2.out HC.out (by decide) HZR.out hown hg
    have P1 := hide p1
    have P2 := hide p2
    have P3 := hide ((HF.out.fg _).trans p3)
    clear p1 p2 p3 hown hg HROW2 HOLD2 HR HF
    go_wp2_with fail
    go_ret
    exact .of_ok HO.out P1.out P2.out P3.out

set_option maxRecDepth 100000 in
set_option maxHeartbeats 1600000 in
theorem add_prem_prem (readM : M PremM) (CR : ∀ s w, Rd R L N s st w → Calls Tryz.prog 132 #[.pointer (some ⟨R, 0, none⟩)] w (Ends R L N st w (vPrem (New w)) (readM s)))
    (Z : Nat → Prop) (l : List PremM) (tv : Value) (most : Int) (hl : l.length ≤ 70000) (hT : Rows Z 107 11 (cPrem Z) w l tv) (hz : ∀ g, w.heap.size ≤ g → Z g) (hzR : ∀ g, Z g → R < g)
    (h : Rd R L N s st w) (o : Out PremM) (ho : addM l.length most readM s = o) :
    Calls Tryz.prog 156 #[.pointer (some ⟨R, 0, none⟩), tv, .int .i64 most, .func (.func 132) #[.pointer (some ⟨R, 0, none⟩)] #[]] w
      (EndsA R L N st w tv.ownBlock (fun w' a v => Rows Z 107 11 (cPrem Z) w' (l ++ [a]) v) o) := by
  obtain ⟨iM, hiM, zM0, zM1, zM2⟩ := info_parts' info_prem
  have HO := hide (set_go ho)
  have H := hide h
  obtain ⟨xs, hrow, hold⟩ := hT
  have HROW := hide hrow
  have HOLD := hide hold
  have HZ := hide hz
  have HZR := hide hzR
  have CR := hide CR
  obtain ⟨ta, tc, rfl⟩ := slice_form hrow.1
  have c3 := h.c3
  have f3 := h.frz 3
  have hlt := h.lt
  clear h ho hrow hold hz hzR
  generalize hfl : (s.full || decide (most ≤ (l.length : Int))) = fl at HO
  have HS := hide (H.out.setFull fl)
  cases hsf : s.full with
  | true =>
    rw [hsf] at c3
    have hb : true = fl := by rw [hsf] at hfl; simpa using hfl
    subst hb
    clear hsf hfl
    go_enter Tryz.func156, Tryz.ntmps156
    go_wp2_with fail
    refine (CR.out _ _ HS.out).mono ?_
    intro e w2 he
    rcases he.split with ⟨a, t, v, ho, rfl, hv, hR, hF⟩ | ⟨c, m, ho, rfl, hF⟩
    rotate_left 1
    · exact on_panic rfl (.of_bad (ho.symm.trans HO.out) (((Fq.refl R w).set 3 _).trans hF))
    have HO := hide (ho.symm.trans HO.out)
    have HR := hide hR
    have HF := hide (((Fq.refl R w).set 3 _).trans hF)
    have HZ2 : Hid (∀ g, w2.heap.size ≤ g → Z g) := hide fun g hg => HZ.out g (Nat.le_trans HF.out.size hg)
    have HROW2 := hide (HROW.out.keep (Kp.of_fq (T := [107]) HF.out H.out (by decide)) (by decide))
    have HC : Hid (∀ w w' b ys, Kp [9, 109] Z w w' → (cPrem Z) w b ys → (cPrem Z) w' b ys) := hide (fun _ _ _ _ hk h => h.keep hk (by decide) (by decide))
    have HOLD2 : Hid (∀ i b, l[i]? = some b → (cPrem Z) w2 b ((xs.drop (i * 11)).take 11)) := hide fun i b hi => HC.out _ _ _ _ (Kp.of_fq HF.out H.out (by decide)) (HOLD.out i b hi)
    obtain ⟨av, lv, rv, rfl, hv⟩ := hv
    have HV := hide ((⟨Strs.mono hv.1 fun g hg => HZ.out g (by simpa [New] using hg), Terms.mono hv.2.1 fun g hg => HZ.out g (by simpa [New] using hg), Terms.mono hv.2.2 fun g hg => HZ.out g (by simpa [New] using hg)⟩ : Strs Z w2 a.lit.args av ∧ Terms Z w2 a.guard.left lv ∧ Terms Z w2 a.guard.right rv))
    clear hv
    clear he ho hR hF CR HS HROW HOLD H
    go_wp2_with (at_builtin; go_must (refine wpList_append_two _ rfl _ _ 95 rfl 0 107 iM _ 11 160 Tryz.underlying95 hiM zM0 zM1 zM2 rfl (by decide) _ _ _ rfl (HROW2.out.1.alloc _) ⟨w2.heap.size, 0, none⟩ 1 [.int .i64 a.kind, .bool a.lit.neg, .string ⟨a.lit.pred.toArray⟩, av, .bool a.lit.hasValue, .int .i64 a.lit.value, lv, .int .i64 a.guard.op, rv, .string ⟨a.a.toArray⟩, .string ⟨a.b.toArray⟩] rfl rfl (news_at rfl) (by intro u hu; simp only [List.mem_cons, List.not_mem_nil, or_false] at hu; rcases hu with rfl | rfl | rfl | rfl | rfl | rfl | rfl | rfl | rfl | rfl | rfl <;> first | rfl | exact rows_one HV.out.1 | exact rows_one HV.out.2.1 | exact rows_one HV.out.2.2) (by unfold maxLen; omega) (by omega) (Nat.zero_le _) ?_))
    intro g cap w4 hown hg
    obtain ⟨p1, p2, p3⟩ := put_behind (a := a) HR.out rfl HROW2.out HOLD2.out (⟨av, lv, rv, rfl, HV.out⟩) rfl HZ2.out HC.out (by decide) HZR.out hown hg
    have P1 := hide p1
    have P2 := hide p2
    have P3 := hide ((HF.out.fg _).trans p3)
    clear p1 p2 p3 hown hg HROW2 HOLD2 HR HF
    go_wp2_with fail
    go_ret
    exact .of_ok HO.out P1.out P2.out P3.out
  | false =>
    rw [hsf] at c3
    have hb : (decide (most ≤ (l.length : Int))) = fl := by rw [hsf] at hfl; simpa using hfl
    clear hsf hfl
    go_enter Tryz.func156, Tryz.ntmps156
    go_wp2_with fail
    refine (CR.out _ _ HS.out).mono ?_
    intro e w2 he
    rcases he.split with ⟨a, t, v, ho, rfl, hv, hR, hF⟩ | ⟨c, m, ho, rfl, hF⟩
    rotate_left 1
    · exact on_panic rfl (.of_bad (ho.symm.trans HO.out) (((Fq.refl R w).set 3 _).trans hF))
    have HO := hide (ho.symm.trans HO.out)
    have HR := hide hR
    have HF := hide (((Fq.refl R w).set 3 _).trans hF)
    have HZ2 : Hid (∀ g, w2.heap.size ≤ g → Z g) := hide fun g hg => HZ.out g (Nat.le_trans HF.out.size hg)
    have HROW2 := hide (HROW.out.keep (Kp.of_fq (T := [107]) HF.out H.out (by decide)) (by decide))
    have HC : Hid (∀ w w' b ys, Kp [9, 109] Z w w' → (cPrem Z) w b ys → (cPrem Z) w' b ys) := hide (fun _ _ _ _ hk h => h.keep hk (by decide) (by decide))
    have HOLD2 : Hid (∀ i b, l[i]? = some b → (cPrem Z) w2 b ((xs.drop (i * 11)).take 11)) := hide fun i b hi => HC.out _ _ _ _ (Kp.of_fq HF.out H.out (by decide)) (HOLD.out i b hi)
    obtain ⟨av, lv, rv, rfl, hv⟩ := hv
    have HV := hide ((⟨Strs.mono hv.1 fun g hg => HZ.out g (by simpa [New] using hg), Terms.mono hv.2.1 fun g hg => HZ.out g (by simpa [New] using hg), Terms.mono hv.2.2 fun g hg => HZ.out g (by simpa [New] using hg)⟩ : Strs Z w2 a.lit.args av ∧ Terms Z w2 a.guard.left lv ∧ Terms Z w2 a.guard.right rv))
    clear hv
    clear he ho hR hF CR HS HROW HOLD H
    go_wp2_with (at_builtin; go_must (refine wpList_append_two _ rfl _ _ 95 rfl 0 107 iM _ 11 160 Tryz.underlying95 hiM zM0 zM1 zM2 rfl (by decide) _ _ _ rfl (HROW2.out.1.alloc _) ⟨w2.heap.size, 0, none⟩ 1 [.int .i64 a.kind, .bool a.lit.neg, .string ⟨a.lit.pred.toArray⟩, av, .bool a.lit.hasValue, .int .i64 a.lit.value, lv, .int .i64 a.guard.op, rv, .string ⟨a.a.toArray⟩, .string ⟨a.b.toArray⟩] rfl rfl (news_at rfl) (by intro u hu; simp only [List.mem_cons, List.not_mem_nil, or_false] at hu; rcases hu with rfl | rfl | rfl | rfl | rfl | rfl | rfl | rfl | rfl | rfl | rfl <;> first | rfl | exact rows_one HV.out.1 | exact rows_one HV.out.2.1 | exact rows_one HV.out.2.2) (by unfold maxLen; omega) (by omega) (Nat.zero_le _) ?_))
    intro g cap w4 hown hg
    obtain ⟨p1, p2, p3⟩ := put_behind (a := a) HR.out rfl HROW2.out HOLD2.out (⟨av, lv, rv, rfl, HV.out⟩) rfl HZ2.out HC.out (by decide) HZR.out hown hg
    have P1 := hide p1
    have P2 := hide p2
    have P3 := hide ((HF.out.fg _).trans p3)
    clear p1 p2 p3 hown hg HROW2 HOLD2 HR HF
    go_wp2_with fail
    go_ret
    exact .of_ok HO.out P1.out P2.out P3.out

end
end Go.Proofs.YthnjmfkiohgkkaaGreatDoor.Sy

namespace Go.Proofs.YthnjmfkiohgkkaaGreatDoor.Sy
open Go.RowKit

/-- The number of the next token, as it lies in memory. -/
def nOf (R : Nat) (w : World) : Nat := match w.cell? ⟨R, 1, none⟩ with
  | some (.int _ n) => n.toNat
  | _ => 0
theorem Rd.nOf_eq {R : Nat} {L : List Tok} {N : Nat} {s : RS} {st : St9} {w : World} (h : Rd R L N s st w) : nOf R w = s.n := by
  unfold nOf
  rw [h.c1]
  simp
theorem Fq.more {R : Nat} {w w1 w2 : World} {row : Option Nat} (h : Fq R w w1) (k : Fg R row w1 w2) (hr : ∀ g, row = some g → w.heap.size ≤ g) : Fq R w w2 :=
  ⟨k.os.trans h.os, k.tape.trans h.tape, k.output.trans h.output, Nat.le_trans h.size k.size, fun i hi hn => (k.block i (Nat.lt_of_lt_of_le hi h.size) hn fun e => by have := hr i e.symm; omega).trans (h.block i hi hn)⟩

theorem add_eats {α : Type} {k : Nat} {most : Int} {read : M α} {s u : RS} {a : α} (hr : ∀ s a u, read s = .ok a u → s.n < u.n) (h : addM k most read s = .ok a u) : s.n < u.n := hr { s with full := s.full || decide (most ≤ (k : Int)) } a u (set_go h)
theorem loop_go {α : Type} {most : Int} {read : M α} {more : M Bool} {f : Nat} {acc : List α} {s : RS} {o : Out (List α)} (h : loopM most read more (f + 1) acc s = o) :
    (more >>= fun b => if b = true then addM acc.length most read >>= fun x => loopM most read more f (acc ++ [x]) else pure acc) s = o := h

section
variable (R : Nat) (L : List Tok) (N : Nat) (s : RS) (st : St9) (w : World)

set_option maxRecDepth 100000 in
set_option maxHeartbeats 1600000 in
theorem list_string_name (readM : M Bytes) (CR : ∀ s w, Rd R L N s st w → Calls Tryz.prog 72 #[.pointer (some ⟨R, 0, none⟩)] w (Ends R L N st w repS (readM s)))
    (moreM : M Bool) (CM : ∀ s w, Rd R L N s st w → Calls Tryz.prog 123 #[.pointer (some ⟨R, 0, none⟩)] w (Ends R L N st w repB (moreM s)))
    (hr : ∀ s a u, readM s = .ok a u → s.n < u.n) (hm : ∀ s u, moreM s = .ok true u → s.n < u.n) (most : Int)
    (h : Rd R L N s st w) (o : Out (List Bytes)) (ho : listM (kt L) most readM moreM s = o) :
    Calls Tryz.prog 122 #[.pointer (some ⟨R, 0, none⟩), .int .i64 most, .func (.func 72) #[.pointer (some ⟨R, 0, none⟩)] #[], .func (.func 123) #[.pointer (some ⟨R, 0, none⟩)] #[]] w
      (Ends R L N st w (fun w' l v => Rows (New w) 9 1 cS w' l v) o) := by
  have HO := hide ho
  have HLT := hide h.lt
  have HR0 := hide hr
  have HM0 := hide hm
  have CM := hide CM
  have HZR : Hid (∀ g, New w g → R < g) := hide fun g hg => Nat.lt_of_lt_of_le h.lt hg
  have CA := hide (fun s w' => add_string_name R L N s st w' readM CR (New w))
  have C1 := hide (CA.out s w [] (.slice none 0 0) most (by simp) (Rows.nil _ _ _ _ _) (fun g hg => hg) HZR.out h _ rfl)
  have HN := hide (show (kt L).length = L.length by simp [kt])
  clear ho h hr hm CR
  go_enter Tryz.func122, Tryz.ntmps122
  go_wp2_with fail
  refine C1.out.mono ?_
  intro e w1 he
  rcases he.split with ⟨a1, s1, v1, ho, rfl, hv, hR, hF⟩ | ⟨c, m, ho, rfl, hF⟩
  rotate_left 1
  · exact on_panic rfl (.of_bad (bind_no HO.out ho) hF)
  have HO1 := hide (bind_go HO.out ho)
  have HV1 := hide hv
  have HR1 := hide hR
  have HF1 := hide (Fg.fq hF)
  have HE1 : Hid (1 ≤ s1.n) := hide (by have := add_eats HR0.out ho; omega)
  clear he ho hv hR hF HO C1
  go_wp2_with fail
  go_loopw [9] (fun x wr => ∃ (acc : List Bytes) (t : RS) (f : Nat), Hid (Rows (New w) 9 1 cS wr acc x) ∧ Hid (Rd R L N t st wr) ∧ Hid (Fq R w wr) ∧ Hid (loopM most readM moreM f acc t = o) ∧ Hid (L.length - t.n < f) ∧ Hid (acc.length ≤ t.n)) (fun _ wr => L.length - nOf R wr)
  case atStart => exact ⟨[a1], s1, (kt L).length + 1, HV1, HR1, HF1, HO1, hide (by rw [HN.out]; omega), HE1⟩
  case round =>
    obtain ⟨acc, t, f, HV, HR, HF, HO, Hf, Hn⟩ := hrel
    clear HV1 HR1 HF1 HO1
    obtain ⟨f, rfl⟩ : ∃ g, f = g + 1 := ⟨f - 1, by have := Hf.out; omega⟩
    have HO := hide (loop_go HO.out)
    go_wp2_with fail
    refine (CM.out _ _ HR.out).mono ?_
    intro e w2 he
    rcases he.split with ⟨b, t2, v2, ho, rfl, hv, hR, hF⟩ | ⟨c, m, ho, rfl, hF⟩
    rotate_left 1
    · exact ⟨rfl, .of_bad (bind_no HO.out ho) (HF.out.trans hF)⟩
    cases hv
    have HR2 := hide hR
    have HF2 := hide (HF.out.trans hF)
    have HK : Hid (∀ T, 62 ∉ T → Kp T (New w) _ w2) := hide fun T hT => Kp.of_fq hF HR.out hT
    have HV2 := hide (Rows.keep HV.out (HK.out [9] (by decide)) (by decide) (fun _ _ h => h))
    cases b with
    | false =>
      have h2 := bind_go HO.out ho
      have HO2 := hide (ite_f h2 rfl)
      clear h2
      clear he ho hR hF HO HR HF HV HK
      go_wp2_with fail
      go_ret
      exact .of_ok HO2.out HV2.out HR2.out HF2.out
    | true =>
      have h2 := bind_go HO.out ho
      have HO2 := hide (ite_t h2 rfl)
      clear h2
      have HT2 := hide (HM0.out _ _ ho)
      have C3 := hide (CA.out t2 w2 acc _ most (by have := HR.out.nle; have := HR.out.Lle; have := Hn.out; omega) HV2.out (fun g hg => Nat.le_trans HF2.out.size hg) HZR.out HR2.out _ rfl)
      have HC1 := hide HR.out.c1
      clear he ho hR hF HO HK
      go_wp2_with fail
      refine C3.out.mono ?_
      intro e w3 he
      rcases he.split with ⟨a3, t3, v3, ho, rfl, hv, hR, hF⟩ | ⟨c, m, ho, rfl, hF⟩
      rotate_left 1
      · exact ⟨rfl, .of_bad (bind_no HO2.out ho) (HF2.out.trans hF)⟩
      have HO3 := hide (bind_go HO2.out ho)
      have HV3 := hide hv
      have HR3 := hide hR
      have HF3 := hide (HF2.out.more hF fun g hg => by obtain ⟨xs, hx, _⟩ := HV2.out; exact hx.2 g hg)
      have HT3 : Hid (t2.n < t3.n) := hide (add_eats HR0.out ho)
      clear he ho hv hR hF HO2 C3
      go_wp2_with fail
      go_roundw
      case rel => exact ⟨acc ++ [a3], t3, f, HV3, HR3, HF3, HO3, hide (by have := HT2.out; have := HT3.out; have := Hf.out; have := HR3.out.nle; omega), hide (by have := HT2.out; have := HT3.out; have := Hn.out; simp; omega)⟩
      case measure =>
        rw [HR3.out.nOf_eq, HR.out.nOf_eq]
        have := HT2.out; have := HT3.out; have := HR3.out.nle
        omega

set_option maxRecDepth 100000 in
set_option maxHeartbeats 1600000 in
theorem list_string_arg (readM : M Bytes) (CR : ∀ s w, Rd R L N s st w → Calls Tryz.prog 159 #[.pointer (some ⟨R, 0, none⟩)] w (Ends R L N st w repS (readM s)))
    (moreM : M Bool) (CM : ∀ s w, Rd R L N s st w → Calls Tryz.prog 123 #[.pointer (some ⟨R, 0, none⟩)] w (Ends R L N st w repB (moreM s)))
    (hr : ∀ s a u, readM s = .ok a u → s.n < u.n) (hm : ∀ s u, moreM s = .ok true u → s.n < u.n) (most : Int)
    (h : Rd R L N s st w) (o : Out (List Bytes)) (ho : listM (kt L) most readM moreM s = o) :
    Calls Tryz.prog 122 #[.pointer (some ⟨R, 0, none⟩), .int .i64 most, .func (.func 159) #[.pointer (some ⟨R, 0, none⟩)] #[], .func (.func 123) #[.pointer (some ⟨R, 0, none⟩)] #[]] w
      (Ends R L N st w (fun w' l v => Rows (New w) 9 1 cS w' l v) o) := by
  have HO := hide ho
  have HLT := hide h.lt
  have HR0 := hide hr
  have HM0 := hide hm
  have CM := hide CM
  have HZR : Hid (∀ g, New w g → R < g) := hide fun g hg => Nat.lt_of_lt_of_le h.lt hg
  have CA := hide (fun s w' => add_string_arg R L N s st w' readM CR (New w))
  have C1 := hide (CA.out s w [] (.slice none 0 0) most (by simp) (Rows.nil _ _ _ _ _) (fun g hg => hg) HZR.out h _ rfl)
  have HN := hide (show (kt L).length = L.length by simp [kt])
  clear ho h hr hm CR
  go_enter Tryz.func122, Tryz.ntmps122
  go_wp2_with fail
  refine C1.out.mono ?_
  intro e w1 he
  rcases he.split with ⟨a1, s1, v1, ho, rfl, hv, hR, hF⟩ | ⟨c, m, ho, rfl, hF⟩
  rotate_left 1
  · exact on_panic rfl (.of_bad (bind_no HO.out ho) hF)
  have HO1 := hide (bind_go HO.out ho)
  have HV1 := hide hv
  have HR1 := hide hR
  have HF1 := hide (Fg.fq hF)
  have HE1 : Hid (1 ≤ s1.n) := hide (by have := add_eats HR0.out ho; omega)
  clear he ho hv hR hF HO C1
  go_wp2_with fail
  go_loopw [9] (fun x wr => ∃ (acc : List Bytes) (t : RS) (f : Nat), Hid (Rows (New w) 9 1 cS wr acc x) ∧ Hid (Rd R L N t st wr) ∧ Hid (Fq R w wr) ∧ Hid (loopM most readM moreM f acc t = o) ∧ Hid (L.length - t.n < f) ∧ Hid (acc.length ≤ t.n)) (fun _ wr => L.length - nOf R wr)
  case atStart => exact ⟨[a1], s1, (kt L).length + 1, HV1, HR1, HF1, HO1, hide (by rw [HN.out]; omega), HE1⟩
  case round =>
    obtain ⟨acc, t, f, HV, HR, HF, HO, Hf, Hn⟩ := hrel
    clear HV1 HR1 HF1 HO1
    obtain ⟨f, rfl⟩ : ∃ g, f = g + 1 := ⟨f - 1, by have := Hf.out; omega⟩
    have HO := hide (loop_go HO.out)
    go_wp2_with fail
    refine (CM.out _ _ HR.out).mono ?_
    intro e w2 he
    rcases he.split with ⟨b, t2, v2, ho, rfl, hv, hR, hF⟩ | ⟨c, m, ho, rfl, hF⟩
    rotate_left 1
    · exact ⟨rfl, .of_bad (bind_no HO.out ho) (HF.out.trans hF)⟩
    cases hv
    have HR2 := hide hR
    have HF2 := hide (HF.out.trans hF)
    have HK : Hid (∀ T, 62 ∉ T → Kp T (New w) _ w2) := hide fun T hT => Kp.of_fq hF HR.out hT
    have HV2 := hide (Rows.keep HV.out (HK.out [9] (by decide)) (by decide) (fun _ _ h => h))
    cases b with
    | false =>
      have h2 := bind_go HO.out ho
      have HO2 := hide (ite_f h2 rfl)
      clear h2
      clear he ho hR hF HO HR HF HV HK
      go_wp2_with fail
      go_ret
      exact .of_ok HO2.out HV2.out HR2.out HF2.out
    | true =>
      have h2 := bind_go HO.out ho
      have HO2 := hide (ite_t h2 rfl)
      clear h2
      have HT2 := hide (HM0.out _ _ ho)
      have C3 := hide (CA.out t2 w2 acc _ most (by have := HR.out.nle; have := HR.out.Lle; have := Hn.out; omega) HV2.out (fun g hg => Nat.le_trans HF2.out.size hg) HZR.out HR2.out _ rfl)
      have HC1 := hide HR.out.c1
      clear he ho hR hF HO HK
      go_wp2_with fail
      refine C3.out.mono ?_
      intro e w3 he
      rcases he.split with ⟨a3, t3, v3, ho, rfl, hv, hR, hF⟩ | ⟨c, m, ho, rfl, hF⟩
      rotate_left 1
      · exact ⟨rfl, .of_bad (bind_no HO2.out ho) (HF2.out.trans hF)⟩
      have HO3 := hide (bind_go HO2.out ho)
      have HV3 := hide hv
      have HR3 := hide hR
      have HF3 := hide (HF2.out.more hF fun g hg => by obtain ⟨xs, hx, _⟩ := HV2.out; exact hx.2 g hg)
      have HT3 : Hid (t2.n < t3.n) := hide (add_eats HR0.out ho)
      clear he ho hv hR hF HO2 C3
      go_wp2_with fail
      go_roundw
      case rel => exact ⟨acc ++ [a3], t3, f, HV3, HR3, HF3, HO3, hide (by have := HT2.out; have := HT3.out; have := Hf.out; have := HR3.out.nle; omega), hide (by have := HT2.out; have := HT3.out; have := Hn.out; simp; omega)⟩
      case measure =>
        rw [HR3.out.nOf_eq, HR.out.nOf_eq]
        have := HT2.out; have := HT3.out; have := HR3.out.nle
        omega

set_option maxRecDepth 100000 in
set_option maxHeartbeats 1600000 in
theorem list_money_money (readM : M Int) (CR : ∀ s w, Rd R L N s st w → Calls Tryz.prog 126 #[.pointer (some ⟨R, 0, none⟩)] w (Ends R L N st w repI (readM s)))
    (moreM : M Bool) (CM : ∀ s w, Rd R L N s st w → Calls Tryz.prog 123 #[.pointer (some ⟨R, 0, none⟩)] w (Ends R L N st w repB (moreM s)))
    (hr : ∀ s a u, readM s = .ok a u → s.n < u.n) (hm : ∀ s u, moreM s = .ok true u → s.n < u.n) (most : Int)
    (h : Rd R L N s st w) (o : Out (List Int)) (ho : listM (kt L) most readM moreM s = o) :
    Calls Tryz.prog 125 #[.pointer (some ⟨R, 0, none⟩), .int .i64 most, .func (.func 126) #[.pointer (some ⟨R, 0, none⟩)] #[], .func (.func 123) #[.pointer (some ⟨R, 0, none⟩)] #[]] w
      (Ends R L N st w (fun w' l v => Rows (New w) 93 1 cI w' l v) o) := by
  have HO := hide ho
  have HLT := hide h.lt
  have HR0 := hide hr
  have HM0 := hide hm
  have CM := hide CM
  have HZR : Hid (∀ g, New w g → R < g) := hide fun g hg => Nat.lt_of_lt_of_le h.lt hg
  have CA := hide (fun s w' => add_money_money R L N s st w' readM CR (New w))
  have C1 := hide (CA.out s w [] (.slice none 0 0) most (by simp) (Rows.nil _ _ _ _ _) (fun g hg => hg) HZR.out h _ rfl)
  have HN := hide (show (kt L).length = L.length by simp [kt])
  clear ho h hr hm CR
  go_enter Tryz.func125, Tryz.ntmps125
  go_wp2_with fail
  refine C1.out.mono ?_
  intro e w1 he
  rcases he.split with ⟨a1, s1, v1, ho, rfl, hv, hR, hF⟩ | ⟨c, m, ho, rfl, hF⟩
  rotate_left 1
  · exact on_panic rfl (.of_bad (bind_no HO.out ho) hF)
  have HO1 := hide (bind_go HO.out ho)
  have HV1 := hide hv
  have HR1 := hide hR
  have HF1 := hide (Fg.fq hF)
  have HE1 : Hid (1 ≤ s1.n) := hide (by have := add_eats HR0.out ho; omega)
  clear he ho hv hR hF HO C1
  go_wp2_with fail
  go_loopw [9] (fun x wr => ∃ (acc : List Int) (t : RS) (f : Nat), Hid (Rows (New w) 93 1 cI wr acc x) ∧ Hid (Rd R L N t st wr) ∧ Hid (Fq R w wr) ∧ Hid (loopM most readM moreM f acc t = o) ∧ Hid (L.length - t.n < f) ∧ Hid (acc.length ≤ t.n)) (fun _ wr => L.length - nOf R wr)
  case atStart => exact ⟨[a1], s1, (kt L).length + 1, HV1, HR1, HF1, HO1, hide (by rw [HN.out]; omega), HE1⟩
  case round =>
    obtain ⟨acc, t, f, HV, HR, HF, HO, Hf, Hn⟩ := hrel
    clear HV1 HR1 HF1 HO1
    obtain ⟨f, rfl⟩ : ∃ g, f = g + 1 := ⟨f - 1, by have := Hf.out; omega⟩
    have HO := hide (loop_go HO.out)
    go_wp2_with fail
    refine (CM.out _ _ HR.out).mono ?_
    intro e w2 he
    rcases he.split with ⟨b, t2, v2, ho, rfl, hv, hR, hF⟩ | ⟨c, m, ho, rfl, hF⟩
    rotate_left 1
    · exact ⟨rfl, .of_bad (bind_no HO.out ho) (HF.out.trans hF)⟩
    cases hv
    have HR2 := hide hR
    have HF2 := hide (HF.out.trans hF)
    have HK : Hid (∀ T, 62 ∉ T → Kp T (New w) _ w2) := hide fun T hT => Kp.of_fq hF HR.out hT
    have HV2 := hide (Rows.keep HV.out (HK.out [93] (by decide)) (by decide) (fun _ _ h => h))
    cases b with
    | false =>
      have h2 := bind_go HO.out ho
      have HO2 := hide (ite_f h2 rfl)
      clear h2
      clear he ho hR hF HO HR HF HV HK
      go_wp2_with fail
      go_ret
      exact .of_ok HO2.out HV2.out HR2.out HF2.out
    | true =>
      have h2 := bind_go HO.out ho
      have HO2 := hide (ite_t h2 rfl)
      clear h2
      have HT2 := hide (HM0.out _ _ ho)
      have C3 := hide (CA.out t2 w2 acc _ most (by have := HR.out.nle; have := HR.out.Lle; have := Hn.out; omega) HV2.out (fun g hg => Nat.le_trans HF2.out.size hg) HZR.out HR2.out _ rfl)
      have HC1 := hide HR.out.c1
      clear he ho hR hF HO HK
      go_wp2_with fail
      refine C3.out.mono ?_
      intro e w3 he
      rcases he.split with ⟨a3, t3, v3, ho, rfl, hv, hR, hF⟩ | ⟨c, m, ho, rfl, hF⟩
      rotate_left 1
      · exact ⟨rfl, .of_bad (bind_no HO2.out ho) (HF2.out.trans hF)⟩
      have HO3 := hide (bind_go HO2.out ho)
      have HV3 := hide hv
      have HR3 := hide hR
      have HF3 := hide (HF2.out.more hF fun g hg => by obtain ⟨xs, hx, _⟩ := HV2.out; exact hx.2 g hg)
      have HT3 : Hid (t2.n < t3.n) := hide (add_eats HR0.out ho)
      clear he ho hv hR hF HO2 C3
      go_wp2_with fail
      go_roundw
      case rel => exact ⟨acc ++ [a3], t3, f, HV3, HR3, HF3, HO3, hide (by have := HT2.out; have := HT3.out; have := Hf.out; have := HR3.out.nle; omega), hide (by have := HT2.out; have := HT3.out; have := Hn.out; simp; omega)⟩
      case measure =>
        rw [HR3.out.nOf_eq, HR.out.nOf_eq]
        have := HT2.out; have := HT3.out; have := HR3.out.nle
        omega

set_option maxRecDepth 100000 in
set_option maxHeartbeats 1600000 in
theorem list_term_term (readM : M TermM) (CR : ∀ s w, Rd R L N s st w → Calls Tryz.prog 196 #[.pointer (some ⟨R, 0, none⟩)] w (Ends R L N st w (vTerm (New w)) (readM s)))
    (moreM : M Bool) (CM : ∀ s w, Rd R L N s st w → Calls Tryz.prog 197 #[.pointer (some ⟨R, 0, none⟩)] w (Ends R L N st w repB (moreM s)))
    (hr : ∀ s a u, readM s = .ok a u → s.n < u.n) (hm : ∀ s u, moreM s = .ok true u → s.n < u.n) (most : Int)
    (h : Rd R L N s st w) (o : Out (List TermM)) (ho : listM (kt L) most readM moreM s = o) :
    Calls Tryz.prog 195 #[.pointer (some ⟨R, 0, none⟩), .int .i64 most, .func (.func 196) #[.pointer (some ⟨R, 0, none⟩)] #[], .func (.func 197) #[.pointer (some ⟨R, 0, none⟩)] #[]] w
      (Ends R L N st w (fun w' l v => Rows (New w) 109 4 (cTerm (New w)) w' l v) o) := by
  have HO := hide ho
  have HLT := hide h.lt
  have HR0 := hide hr
  have HM0 := hide hm
  have CM := hide CM
  have HZR : Hid (∀ g, New w g → R < g) := hide fun g hg => Nat.lt_of_lt_of_le h.lt hg
  have CA := hide (fun s w' => add_term_term R L N s st w' readM CR (New w))
  have C1 := hide (CA.out s w [] (.slice none 0 0) most (by simp) (Rows.nil _ _ _ _ _) (fun g hg => hg) HZR.out h _ rfl)
  have HN := hide (show (kt L).length = L.length by simp [kt])
  clear ho h hr hm CR
  go_enter Tryz.func195, Tryz.ntmps195
  go_wp2_with fail
  refine C1.out.mono ?_
  intro e w1 he
  rcases he.split with ⟨a1, s1, v1, ho, rfl, hv, hR, hF⟩ | ⟨c, m, ho, rfl, hF⟩
  rotate_left 1
  · exact on_panic rfl (.of_bad (bind_no HO.out ho) hF)
  have HO1 := hide (bind_go HO.out ho)
  have HV1 := hide hv
  have HR1 := hide hR
  have HF1 := hide (Fg.fq hF)
  have HE1 : Hid (1 ≤ s1.n) := hide (by have := add_eats HR0.out ho; omega)
  clear he ho hv hR hF HO C1
  go_wp2_with fail
  go_loopw [9] (fun x wr => ∃ (acc : List TermM) (t : RS) (f : Nat), Hid (Rows (New w) 109 4 (cTerm (New w)) wr acc x) ∧ Hid (Rd R L N t st wr) ∧ Hid (Fq R w wr) ∧ Hid (loopM most readM moreM f acc t = o) ∧ Hid (L.length - t.n < f) ∧ Hid (acc.length ≤ t.n)) (fun _ wr => L.length - nOf R wr)
  case atStart => exact ⟨[a1], s1, (kt L).length + 1, HV1, HR1, HF1, HO1, hide (by rw [HN.out]; omega), HE1⟩
  case round =>
    obtain ⟨acc, t, f, HV, HR, HF, HO, Hf, Hn⟩ := hrel
    clear HV1 HR1 HF1 HO1
    obtain ⟨f, rfl⟩ : ∃ g, f = g + 1 := ⟨f - 1, by have := Hf.out; omega⟩
    have HO := hide (loop_go HO.out)
    go_wp2_with fail
    refine (CM.out _ _ HR.out).mono ?_
    intro e w2 he
    rcases he.split with ⟨b, t2, v2, ho, rfl, hv, hR, hF⟩ | ⟨c, m, ho, rfl, hF⟩
    rotate_left 1
    · exact ⟨rfl, .of_bad (bind_no HO.out ho) (HF.out.trans hF)⟩
    cases hv
    have HR2 := hide hR
    have HF2 := hide (HF.out.trans hF)
    have HK : Hid (∀ T, 62 ∉ T → Kp T (New w) _ w2) := hide fun T hT => Kp.of_fq hF HR.out hT
    have HV2 := hide (Rows.keep HV.out (HK.out [109, 9] (by decide)) (by decide) (fun _ _ h => h.keep (HK.out [9] (by decide)) (by decide)))
    cases b with
    | false =>
      have h2 := bind_go HO.out ho
      have HO2 := hide (ite_f h2 rfl)
      clear h2
      clear he ho hR hF HO HR HF HV HK
      go_wp2_with fail
      go_ret
      exact .of_ok HO2.out HV2.out HR2.out HF2.out
    | true =>
      have h2 := bind_go HO.out ho
      have HO2 := hide (ite_t h2 rfl)
      clear h2
      have HT2 := hide (HM0.out _ _ ho)
      have C3 := hide (CA.out t2 w2 acc _ most (by have := HR.out.nle; have := HR.out.Lle; have := Hn.out; omega) HV2.out (fun g hg => Nat.le_trans HF2.out.size hg) HZR.out HR2.out _ rfl)
      have HC1 := hide HR.out.c1
      clear he ho hR hF HO HK
      go_wp2_with fail
      refine C3.out.mono ?_
      intro e w3 he
      rcases he.split with ⟨a3, t3, v3, ho, rfl, hv, hR, hF⟩ | ⟨c, m, ho, rfl, hF⟩
      rotate_left 1
      · exact ⟨rfl, .of_bad (bind_no HO2.out ho) (HF2.out.trans hF)⟩
      have HO3 := hide (bind_go HO2.out ho)
      have HV3 := hide hv
      have HR3 := hide hR
      have HF3 := hide (HF2.out.more hF fun g hg => by obtain ⟨xs, hx, _⟩ := HV2.out; exact hx.2 g hg)
      have HT3 : Hid (t2.n < t3.n) := hide (add_eats HR0.out ho)
      clear he ho hv hR hF HO2 C3
      go_wp2_with fail
      go_roundw
      case rel => exact ⟨acc ++ [a3], t3, f, HV3, HR3, HF3, HO3, hide (by have := HT2.out; have := HT3.out; have := Hf.out; have := HR3.out.nle; omega), hide (by have := HT2.out; have := HT3.out; have := Hn.out; simp; omega)⟩
      case measure =>
        rw [HR3.out.nOf_eq, HR.out.nOf_eq]
        have := HT2.out; have := HT3.out; have := HR3.out.nle
        omega

set_option maxRecDepth 100000 in
set_option maxHeartbeats 1600000 in
theorem list_prem_prem (readM : M PremM) (CR : ∀ s w, Rd R L N s st w → Calls Tryz.prog 132 #[.pointer (some ⟨R, 0, none⟩)] w (Ends R L N st w (vPrem (New w)) (readM s)))
    (moreM : M Bool) (CM : ∀ s w, Rd R L N s st w → Calls Tryz.prog 123 #[.pointer (some ⟨R, 0, none⟩)] w (Ends R L N st w repB (moreM s)))
    (hr : ∀ s a u, readM s = .ok a u → s.n < u.n) (hm : ∀ s u, moreM s = .ok true u → s.n < u.n) (most : Int)
    (h : Rd R L N s st w) (o : Out (List PremM)) (ho : listM (kt L) most readM moreM s = o) :
    Calls Tryz.prog 131 #[.pointer (some ⟨R, 0, none⟩), .int .i64 most, .func (.func 132) #[.pointer (some ⟨R, 0, none⟩)] #[], .func (.func 123) #[.pointer (some ⟨R, 0, none⟩)] #[]] w
      (Ends R L N st w (fun w' l v => Rows (New w) 107 11 (cPrem (New w)) w' l v) o) := by
  have HO := hide ho
  have HLT := hide h.lt
  have HR0 := hide hr
  have HM0 := hide hm
  have CM := hide CM
  have HZR : Hid (∀ g, New w g → R < g) := hide fun g hg => Nat.lt_of_lt_of_le h.lt hg
  have CA := hide (fun s w' => add_prem_prem R L N s st w' readM CR (New w))
  have C1 := hide (CA.out s w [] (.slice none 0 0) most (by simp) (Rows.nil _ _ _ _ _) (fun g hg => hg) HZR.out h _ rfl)
  have HN := hide (show (kt L).length = L.length by simp [kt])
  clear ho h hr hm CR
  go_enter Tryz.func131, Tryz.ntmps131
  go_wp2_with fail
  refine C1.out.mono ?_
  intro e w1 he
  rcases he.split with ⟨a1, s1, v1, ho, rfl, hv, hR, hF⟩ | ⟨c, m, ho, rfl, hF⟩
  rotate_left 1
  · exact on_panic rfl (.of_bad (bind_no HO.out ho) hF)
  have HO1 := hide (bind_go HO.out ho)
  have HV1 := hide hv
  have HR1 := hide hR
  have HF1 := hide (Fg.fq hF)
  have HE1 : Hid (1 ≤ s1.n) := hide (by have := add_eats HR0.out ho; omega)
  clear he ho hv hR hF HO C1
  go_wp2_with fail
  go_loopw [9] (fun x wr => ∃ (acc : List PremM) (t : RS) (f : Nat), Hid (Rows (New w) 107 11 (cPrem (New w)) wr acc x) ∧ Hid (Rd R L N t st wr) ∧ Hid (Fq R w wr) ∧ Hid (loopM most readM moreM f acc t = o) ∧ Hid (L.length - t.n < f) ∧ Hid (acc.length ≤ t.n)) (fun _ wr => L.length - nOf R wr)
  case atStart => exact ⟨[a1], s1, (kt L).length + 1, HV1, HR1, HF1, HO1, hide (by rw [HN.out]; omega), HE1⟩
  case round =>
    obtain ⟨acc, t, f, HV, HR, HF, HO, Hf, Hn⟩ := hrel
    clear HV1 HR1 HF1 HO1
    obtain ⟨f, rfl⟩ : ∃ g, f = g + 1 := ⟨f - 1, by have := Hf.out; omega⟩
    have HO := hide (loop_go HO.out)
    go_wp2_with fail
    refine (CM.out _ _ HR.out).mono ?_
    intro e w2 he
    rcases he.split with ⟨b, t2, v2, ho, rfl, hv, hR, hF⟩ | ⟨c, m, ho, rfl, hF⟩
    rotate_left 1
    · exact ⟨rfl, .of_bad (bind_no HO.out ho) (HF.out.trans hF)⟩
    cases hv
    have HR2 := hide hR
    have HF2 := hide (HF.out.trans hF)
    have HK : Hid (∀ T, 62 ∉ T → Kp T (New w) _ w2) := hide fun T hT => Kp.of_fq hF HR.out hT
    have HV2 := hide (Rows.keep HV.out (HK.out [107, 9, 109] (by decide)) (by decide) (fun _ _ h => h.keep (HK.out [9, 109] (by decide)) (by decide) (by decide)))
    cases b with
    | false =>
      have h2 := bind_go HO.out ho
      have HO2 := hide (ite_f h2 rfl)
      clear h2
      clear he ho hR hF HO HR HF HV HK
      go_wp2_with fail
      go_ret
      exact .of_ok HO2.out HV2.out HR2.out HF2.out
    | true =>
      have h2 := bind_go HO.out ho
      have HO2 := hide (ite_t h2 rfl)
      clear h2
      have HT2 := hide (HM0.out _ _ ho)
      have C3 := hide (CA.out t2 w2 acc _ most (by have := HR.out.nle; have := HR.out.Lle; have := Hn.out; omega) HV2.out (fun g hg => Nat.le_trans HF2.out.size hg) HZR.out HR2.out _ rfl)
      have HC1 := hide HR.out.c1
      clear he ho hR hF HO HK
      go_wp2_with fail
      refine C3.out.mono ?_
      intro e w3 he
      rcases he.split with ⟨a3, t3, v3, ho, rfl, hv, hR, hF⟩ | ⟨c, m, ho, rfl, hF⟩
      rotate_left 1
      · exact ⟨rfl, .of_bad (bind_no HO2.out ho) (HF2.out.trans hF)⟩
      have HO3 := hide (bind_go HO2.out ho)
      have HV3 := hide hv
      have HR3 := hide hR
      have HF3 := hide (HF2.out.more hF fun g hg => by obtain ⟨xs, hx, _⟩ := HV2.out; exact hx.2 g hg)
      have HT3 : Hid (t2.n < t3.n) := hide (add_eats HR0.out ho)
      clear he ho hv hR hF HO2 C3
      go_wp2_with fail
      go_roundw
      case rel => exact ⟨acc ++ [a3], t3, f, HV3, HR3, HF3, HO3, hide (by have := HT2.out; have := HT3.out; have := Hf.out; have := HR3.out.nle; omega), hide (by have := HT2.out; have := HT3.out; have := Hn.out; simp; omega)⟩
      case measure =>
        rw [HR3.out.nOf_eq, HR.out.nOf_eq]
        have := HT2.out; have := HT3.out; have := HR3.out.nle
        omega

end
end Go.Proofs.YthnjmfkiohgkkaaGreatDoor.Sy

namespace Go.Proofs.YthnjmfkiohgkkaaGreatDoor.Sy
open Go.RowKit

theorem loc_lt {w : World} {q : Nat} {o : Obj} (h : w.heap[q]? = some o) : q < w.heap.size := by
  apply Classical.byContradiction
  intro hn
  rw [Array.getElem?_eq_none (by omega)] at h
  cases h
theorem loc_set {w : World} {q T i : Nat} {cs : Array Value} {v : Value} (h : w.heap[q]? = some (.cells cs T (0, 0))) : (w.setCell ⟨q, i, none⟩ v).heap[q]? = some (.cells (cs.setIfInBounds i v) T (0, 0)) := heap_setCell_same w q i cs T v h
theorem loc_other {w : World} {q : Nat} {p : Addr} {o : Obj} {v : Value} (h : w.heap[q]? = some o) (hn : q ≠ p.block) : (w.setCell p v).heap[q]? = some o := (heap_setCell_other w p q v hn).trans h
theorem Fq.loc {R : Nat} {w w' : World} {q : Nat} {o : Obj} (hF : Fq R w w') (h : w.heap[q]? = some o) (hn : q ≠ R) : w'.heap[q]? = some o := (hF.block q (loc_lt h) hn).trans h
theorem Rd.setLoc {R : Nat} {L : List Tok} {N : Nat} {s : RS} {st : St9} {w : World} (h : Rd R L N s st w) {q : Nat} (hq : R < q) (i : Nat) (v : Value) : Rd R L N s st (w.setCell ⟨q, i, none⟩ v) :=
  h.keep (by simp) fun k hk => heap_setCell_other w ⟨q, i, none⟩ k v (by show k ≠ q; omega)
theorem Fq.setLoc {R : Nat} {w0 w : World} (h : Fq R w0 w) {q : Nat} (hq : w0.heap.size ≤ q) (i : Nat) (v : Value) : Fq R w0 (w.setCell ⟨q, i, none⟩ v) :=
  ⟨h.os, h.tape, h.output, by simpa using h.size, fun k hk hn => (heap_setCell_other w ⟨q, i, none⟩ k v (by show k ≠ q; omega)).trans (h.block k hk hn)⟩
theorem Kp.setLoc {T : List Nat} {Z : Nat → Prop} {w : World} {q t i : Nat} {cs : Array Value} {v : Value} (h : w.heap[q]? = some (.cells cs t (0, 0))) (ht : t ∉ T) : Kp T Z w (w.setCell ⟨q, i, none⟩ v) := by
  intro g cur t' _ hg hm
  refine loc_other hg ?_
  rintro rfl
  rw [h] at hg
  cases hg
  exact ht hm

theorem rows_form {α : Type} {Z : Nat → Prop} {e k : Nat} {c : World → α → List Value → Prop} {w : World} {l : List α} {v : Value} (h : Rows Z e k c w l v) : ∃ a c, v = .slice a l.length c := by
  obtain ⟨xs, h1, _⟩ := h
  exact slice_form h1.1

section
variable {w : World} {q T : Nat} {a0 a1 a2 a3 a4 a5 a6 a7 a8 a9 a10 : Value}
theorem row2 (h : w.heap[q]? = some (.cells #[a0, a1] T (0, 0))) : w.cell? ⟨q, 0, none⟩ = some a0 ∧ w.cell? ⟨q, 1, none⟩ = some a1 ∧ ∀ i, w.frozen? ⟨q, i, none⟩ = false :=
  ⟨cell_of_row w q 0 _ T _ h, cell_of_row w q 1 _ T _ h, fun i => frozen_of_row w q i _ T h⟩
theorem row3 (h : w.heap[q]? = some (.cells #[a0, a1, a2] T (0, 0))) : w.cell? ⟨q, 0, none⟩ = some a0 ∧ w.cell? ⟨q, 1, none⟩ = some a1 ∧ w.cell? ⟨q, 2, none⟩ = some a2 ∧ ∀ i, w.frozen? ⟨q, i, none⟩ = false :=
  ⟨cell_of_row w q 0 _ T _ h, cell_of_row w q 1 _ T _ h, cell_of_row w q 2 _ T _ h, fun i => frozen_of_row w q i _ T h⟩
theorem row4 (h : w.heap[q]? = some (.cells #[a0, a1, a2, a3] T (0, 0))) : w.cell? ⟨q, 0, none⟩ = some a0 ∧ w.cell? ⟨q, 1, none⟩ = some a1 ∧ w.cell? ⟨q, 2, none⟩ = some a2 ∧ w.cell? ⟨q, 3, none⟩ = some a3 ∧ ∀ i, w.frozen? ⟨q, i, none⟩ = false :=
  ⟨cell_of_row w q 0 _ T _ h, cell_of_row w q 1 _ T _ h, cell_of_row w q 2 _ T _ h, cell_of_row w q 3 _ T _ h, fun i => frozen_of_row w q i _ T h⟩
theorem row5 (h : w.heap[q]? = some (.cells #[a0, a1, a2, a3, a4] T (0, 0))) : w.cell? ⟨q, 0, none⟩ = some a0 ∧ w.cell? ⟨q, 1, none⟩ = some a1 ∧ w.cell? ⟨q, 2, none⟩ = some a2 ∧ w.cell? ⟨q, 3, none⟩ = some a3 ∧ w.cell? ⟨q, 4, none⟩ = some a4 ∧ ∀ i, w.frozen? ⟨q, i, none⟩ = false :=
  ⟨cell_of_row w q 0 _ T _ h, cell_of_row w q 1 _ T _ h, cell_of_row w q 2 _ T _ h, cell_of_row w q 3 _ T _ h, cell_of_row w q 4 _ T _ h, fun i => frozen_of_row w q i _ T h⟩
theorem row11 (h : w.heap[q]? = some (.cells #[a0, a1, a2, a3, a4, a5, a6, a7, a8, a9, a10] T (0, 0))) : w.cell? ⟨q, 0, none⟩ = some a0 ∧ w.cell? ⟨q, 1, none⟩ = some a1 ∧ w.cell? ⟨q, 2, none⟩ = some a2 ∧ w.cell? ⟨q, 3, none⟩ = some a3 ∧ w.cell? ⟨q, 4, none⟩ = some a4 ∧
    w.cell? ⟨q, 5, none⟩ = some a5 ∧ w.cell? ⟨q, 6, none⟩ = some a6 ∧ w.cell? ⟨q, 7, none⟩ = some a7 ∧ w.cell? ⟨q, 8, none⟩ = some a8 ∧ w.cell? ⟨q, 9, none⟩ = some a9 ∧ w.cell? ⟨q, 10, none⟩ = some a10 ∧ ∀ i, w.frozen? ⟨q, i, none⟩ = false :=
  ⟨cell_of_row w q 0 _ T _ h, cell_of_row w q 1 _ T _ h, cell_of_row w q 2 _ T _ h, cell_of_row w q 3 _ T _ h, cell_of_row w q 4 _ T _ h, cell_of_row w q 5 _ T _ h, cell_of_row w q 6 _ T _ h, cell_of_row w q 7 _ T _ h, cell_of_row w q 8 _ T _ h, cell_of_row w q 9 _ T _ h, cell_of_row w q 10 _ T _ h, fun i => frozen_of_row w q i _ T h⟩
end
end Go.Proofs.YthnjmfkiohgkkaaGreatDoor.Sy

namespace Go.Proofs.YthnjmfkiohgkkaaGreatDoor.Sy
open Go.RowKit

theorem info_pred : (Tryz.prog.info? 92).map (fun i => (i.zero, i.size, i.bytes)) = some (some (.agg #[.string ⟨#[]⟩, .int .i64 0, .slice none 0 0, .slice none 0 0]), 4, 72) := by kernel_rfl
theorem info_class : (Tryz.prog.info? 22).map (fun i => (i.zero, i.size, i.bytes)) = some (some (.slice none 0 0), 1, 24) := by kernel_rfl
theorem info_source : (Tryz.prog.info? 126).map (fun i => (i.zero, i.size, i.bytes)) = some (some (.agg #[.string ⟨#[]⟩, .int .i64 0]), 2, 24) := by kernel_rfl
theorem info_except : (Tryz.prog.info? 128).map (fun i => (i.zero, i.size, i.bytes)) = some (some (.agg #[.string ⟨#[]⟩, .string ⟨#[]⟩]), 2, 32) := by kernel_rfl
theorem info_rule : (Tryz.prog.info? 100).map (fun i => (i.zero, i.size, i.bytes)) = some (some (.agg #[.string ⟨#[]⟩, .string ⟨#[]⟩, .int .i64 0, .int .i64 0, .slice none 0 0, .int .i64 0, .bool false, .string ⟨#[]⟩, .slice none 0 0, .bool false, .int .i64 0]), 11, 144) := by kernel_rfl
theorem info_total : (Tryz.prog.info? 111).map (fun i => (i.zero, i.size, i.bytes)) = some (some (.agg #[.string ⟨#[]⟩, .string ⟨#[]⟩, .slice none 0 0, .bool false, .int .i64 0]), 5, 72) := by kernel_rfl

section
variable (R : Nat) (L : List Tok) (N : Nat) (s : RS) (st : St9) (w : World)

set_option maxRecDepth 100000 in
set_option maxHeartbeats 1600000 in
theorem add_pred_plain (readM : M PredM) (CR : ∀ s w, Rd R L N s st w → Calls Tryz.prog 75 #[.pointer (some ⟨R, 0, none⟩)] w (Ends R L N st w (vPred (New w)) (readM s)))
    (Z : Nat → Prop) (l : List PredM) (tv : Value) (most : Int) (hl : l.length ≤ 70000) (hT : Rows Z 92 4 (cPred Z) w l tv) (hz : ∀ g, w.heap.size ≤ g → Z g) (hzR : ∀ g, Z g → R < g)
    (h : Rd R L N s st w) (o : Out PredM) (ho : addM l.length most readM s = o) :
    Calls Tryz.prog 74 #[.pointer (some ⟨R, 0, none⟩), tv, .int .i64 most, .func (.func 75) #[.pointer (some ⟨R, 0, none⟩)] #[]] w
      (EndsA R L N st w tv.ownBlock (fun w' a v => Rows Z 92 4 (cPred Z) w' (l ++ [a]) v) o) := by
  obtain ⟨iM, hiM, zM0, zM1, zM2⟩ := info_parts' info_pred
  have HO := hide (set_go ho)
  have H := hide h
  obtain ⟨xs, hrow, hold⟩ := hT
  have HROW := hide hrow
  have HOLD := hide hold
  have HZ := hide hz
  have HZR := hide hzR
  have CR := hide CR
  obtain ⟨ta, tc, rfl⟩ := slice_form hrow.1
  have c3 := h.c3
  have f3 := h.frz 3
  have hlt := h.lt
  clear h ho hrow hold hz hzR
  generalize hfl : (s.full || decide (most ≤ (l.length : Int))) = fl at HO
  have HS := hide (H.out.setFull fl)
  cases hsf : s.full with
  | true =>
    rw [hsf] at c3
    have hb : true = fl := by rw [hsf] at hfl; simpa using hfl
    subst hb
    clear hsf hfl
    go_enter Tryz.func74, Tryz.ntmps74
    go_wp2_with fail
    refine (CR.out _ _ HS.out).mono ?_
    intro e w2 he
    rcases he.split with ⟨a, t, v, ho, rfl, hv, hR, hF⟩ | ⟨c, m, ho, rfl, hF⟩
    rotate_left 1
    · exact on_panic rfl (.of_bad (ho.symm.trans HO.out) (((Fq.refl R w).set 3 _).trans hF))
    have HO := hide (ho.symm.trans HO.out)
    have HR := hide hR
    have HF := hide (((Fq.refl R w).set 3 _).trans hF)
    have HZ2 : Hid (∀ g, w2.heap.size ≤ g → Z g) := hide fun g hg => HZ.out g (Nat.le_trans HF.out.size hg)
    have HROW2 := hide (HROW.out.keep (Kp.of_fq (T := [92]) HF.out H.out (by decide)) (by decide))
    have HC : Hid (∀ w w' b ys, Kp inner Z w w' → (cPred Z) w b ys → (cPred Z) w' b ys) := hide (fun _ _ _ _ hk h => h.keep hk)
    have HOLD2 : Hid (∀ i b, l[i]? = some b → (cPred Z) w2 b ((xs.drop (i * 4)).take 4)) := hide fun i b hi => HC.out _ _ _ _ (Kp.of_fq HF.out H.out (by decide)) (HOLD.out i b hi)
    obtain ⟨kv, vv, rfl, hv⟩ := hv
    have HV := hide ((⟨Strs.mono hv.1 fun g hg => HZ.out g (by simpa [New] using hg), Moneys.mono hv.2 fun g hg => HZ.out g (by simpa [New] using hg)⟩ : Strs Z w2 a.kinds kv ∧ Moneys Z w2 a.values vv))
    clear hv
    clear he ho hR hF CR HS HROW HOLD H
    go_wp2_with (at_builtin; go_must (refine wpList_append_two _ rfl _ _ 24 rfl 0 92 iM _ 4 72 Tryz.underlying24 hiM zM0 zM1 zM2 rfl (by decide) _ _ _ rfl (HROW2.out.1.alloc _) ⟨w2.heap.size, 0, none⟩ 1 [.string ⟨a.name.toArray⟩, .int .i64 a.sort, kv, vv] rfl rfl (news_at rfl) (by intro u hu; simp only [List.mem_cons, List.not_mem_nil, or_false] at hu; rcases hu with rfl | rfl | rfl | rfl <;> first | rfl | exact rows_one HV.out.1 | exact rows_one HV.out.2) (by unfold maxLen; omega) (by omega) (Nat.zero_le _) ?_))
    intro g cap w4 hown hg
    obtain ⟨p1, p2, p3⟩ := put_behind (a := a) HR.out rfl HROW2.out HOLD2.out (⟨kv, vv, rfl, HV.out⟩) rfl HZ2.out HC.out (by decide) HZR.out hown hg
    have P1 := hide p1
    have P2 := hide p2
    have P3 := hide ((HF.out.fg _).trans p3)
    clear p1 p2 p3 hown hg HROW2 HOLD2 HR HF
    go_wp2_with fail
    go_ret
    exact .of_ok HO.out P1.out P2.out P3.out
  | false =>
    rw [hsf] at c3
    have hb : (decide (most ≤ (l.length : Int))) = fl := by rw [hsf] at hfl; simpa using hfl
    clear hsf hfl
    go_enter Tryz.func74, Tryz.ntmps74
    go_wp2_with fail
    refine (CR.out _ _ HS.out).mono ?_
    intro e w2 he
    rcases he.split with ⟨a, t, v, ho, rfl, hv, hR, hF⟩ | ⟨c, m, ho, rfl, hF⟩
    rotate_left 1
    · exact on_panic rfl (.of_bad (ho.symm.trans HO.out) (((Fq.refl R w).set 3 _).trans hF))
    have HO := hide (ho.symm.trans HO.out)
    have HR := hide hR
    have HF := hide (((Fq.refl R w).set 3 _).trans hF)
    have HZ2 : Hid (∀ g, w2.heap.size ≤ g → Z g) := hide fun g hg => HZ.out g (Nat.le_trans HF.out.size hg)
    have HROW2 := hide (HROW.out.keep (Kp.of_fq (T := [92]) HF.out H.out (by decide)) (by decide))
    have HC : Hid (∀ w w' b ys, Kp inner Z w w' → (cPred Z) w b ys → (cPred Z) w' b ys) := hide (fun _ _ _ _ hk h => h.keep hk)
    have HOLD2 : Hid (∀ i b, l[i]? = some b → (cPred Z) w2 b ((xs.drop (i * 4)).take 4)) := hide fun i b hi => HC.out _ _ _ _ (Kp.of_fq HF.out H.out (by decide)) (HOLD.out i b hi)
    obtain ⟨kv, vv, rfl, hv⟩ := hv
    have HV := hide ((⟨Strs.mono hv.1 fun g hg => HZ.out g (by simpa [New] using hg), Moneys.mono hv.2 fun g hg => HZ.out g (by simpa [New] using hg)⟩ : Strs Z w2 a.kinds kv ∧ Moneys Z w2 a.values vv))
    clear hv
    clear he ho hR hF CR HS HROW HOLD H
    go_wp2_with (at_builtin; go_must (refine wpList_append_two _ rfl _ _ 24 rfl 0 92 iM _ 4 72 Tryz.underlying24 hiM zM0 zM1 zM2 rfl (by decide) _ _ _ rfl (HROW2.out.1.alloc _) ⟨w2.heap.size, 0, none⟩ 1 [.string ⟨a.name.toArray⟩, .int .i64 a.sort, kv, vv] rfl rfl (news_at rfl) (by intro u hu; simp only [List.mem_cons, List.not_mem_nil, or_false] at hu; rcases hu with rfl | rfl | rfl | rfl <;> first | rfl | exact rows_one HV.out.1 | exact rows_one HV.out.2) (by unfold maxLen; omega) (by omega) (Nat.zero_le _) ?_))
    intro g cap w4 hown hg
    obtain ⟨p1, p2, p3⟩ := put_behind (a := a) HR.out rfl HROW2.out HOLD2.out (⟨kv, vv, rfl, HV.out⟩) rfl HZ2.out HC.out (by decide) HZR.out hown hg
    have P1 := hide p1
    have P2 := hide p2
    have P3 := hide ((HF.out.fg _).trans p3)
    clear p1 p2 p3 hown hg HROW2 HOLD2 HR HF
    go_wp2_with fail
    go_ret
    exact .of_ok HO.out P1.out P2.out P3.out

set_option maxRecDepth 100000 in
set_option maxHeartbeats 1600000 in
theorem add_pred_number (readM : M PredM) (CR : ∀ s w, Rd R L N s st w → Calls Tryz.prog 76 #[.pointer (some ⟨R, 0, none⟩)] w (Ends R L N st w (vPred (New w)) (readM s)))
    (Z : Nat → Prop) (l : List PredM) (tv : Value) (most : Int) (hl : l.length ≤ 70000) (hT : Rows Z 92 4 (cPred Z) w l tv) (hz : ∀ g, w.heap.size ≤ g → Z g) (hzR : ∀ g, Z g → R < g)
    (h : Rd R L N s st w) (o : Out PredM) (ho : addM l.length most readM s = o) :
    Calls Tryz.prog 74 #[.pointer (some ⟨R, 0, none⟩), tv, .int .i64 most, .func (.func 76) #[.pointer (some ⟨R, 0, none⟩)] #[]] w
      (EndsA R L N st w tv.ownBlock (fun w' a v => Rows Z 92 4 (cPred Z) w' (l ++ [a]) v) o) := by
  obtain ⟨iM, hiM, zM0, zM1, zM2⟩ := info_parts' info_pred
  have HO := hide (set_go ho)
  have H := hide h
  obtain ⟨xs, hrow, hold⟩ := hT
  have HROW := hide hrow
  have HOLD := hide hold
  have HZ := hide hz
  have HZR := hide hzR
  have CR := hide CR
  obtain ⟨ta, tc, rfl⟩ := slice_form hrow.1
  have c3 := h.c3
  have f3 := h.frz 3
  have hlt := h.lt
  clear h ho hrow hold hz hzR
  generalize hfl : (s.full || decide (most ≤ (l.length : Int))) = fl at HO
  have HS := hide (H.out.setFull fl)
  cases hsf : s.full with
  | true =>
    rw [hsf] at c3
    have hb : true = fl := by rw [hsf] at hfl; simpa using hfl
    subst hb
    clear hsf hfl
    go_enter Tryz.func74, Tryz.ntmps74
    go_wp2_with fail
    refine (CR.out _ _ HS.out).mono ?_
    intro e w2 he
    rcases he.split with ⟨a, t, v, ho, rfl, hv, hR, hF⟩ | ⟨c, m, ho, rfl, hF⟩
    rotate_left 1
    · exact on_panic rfl (.of_bad (ho.symm.trans HO.out) (((Fq.refl R w).set 3 _).trans hF))
    have HO := hide (ho.symm.trans HO.out)
    have HR := hide hR
    have HF := hide (((Fq.refl R w).set 3 _).trans hF)
    have HZ2 : Hid (∀ g, w2.heap.size ≤ g → Z g) := hide fun g hg => HZ.out g (Nat.le_trans HF.out.size hg)
    have HROW2 := hide (HROW.out.keep (Kp.of_fq (T := [92]) HF.out H.out (by decide)) (by decide))
    have HC : Hid (∀ w w' b ys, Kp inner Z w w' → (cPred Z) w b ys → (cPred Z) w' b ys) := hide (fun _ _ _ _ hk h => h.keep hk)
    have HOLD2 : Hid (∀ i b, l[i]? = some b → (cPred Z) w2 b ((xs.drop (i * 4)).take 4)) := hide fun i b hi => HC.out _ _ _ _ (Kp.of_fq HF.out H.out (by decide)) (HOLD.out i b hi)
    obtain ⟨kv, vv, rfl, hv⟩ := hv
    have HV := hide ((⟨Strs.mono hv.1 fun g hg => HZ.out g (by simpa [New] using hg), Moneys.mono hv.2 fun g hg => HZ.out g (by simpa [New] using hg)⟩ : Strs Z w2 a.kinds kv ∧ Moneys Z w2 a.values vv))
    clear hv
    clear he ho hR hF CR HS HROW HOLD H
    go_wp2_with (at_builtin; go_must (refine wpList_append_two _ rfl _ _ 24 rfl 0 92 iM _ 4 72 Tryz.underlying24 hiM zM0 zM1 zM2 rfl (by decide) _ _ _ rfl (HROW2.out.1.alloc _) ⟨w2.heap.size, 0, none⟩ 1 [.string ⟨a.name.toArray⟩, .int .i64 a.sort, kv, vv] rfl rfl (news_at rfl) (by intro u hu; simp only [List.mem_cons, List.not_mem_nil, or_false] at hu; rcases hu with rfl | rfl | rfl | rfl <;> first | rfl | exact rows_one HV.out.1 | exact rows_one HV.out.2) (by unfold maxLen; omega) (by omega) (Nat.zero_le _) ?_))
    intro g cap w4 hown hg
    obtain ⟨p1, p2, p3⟩ := put_behind (a := a) HR.out rfl HROW2.out HOLD2.out (⟨kv, vv, rfl, HV.out⟩) rfl HZ2.out HC.out (by decide) HZR.out hown hg
    have P1 := hide p1
    have P2 := hide p2
    have P3 := hide ((HF.out.fg _).trans p3)
    clear p1 p2 p3 hown hg HROW2 HOLD2 HR HF
    go_wp2_with fail
    go_ret
    exact .of_ok HO.out P1.out P2.out P3.out
  | false =>
    rw [hsf] at c3
    have hb : (decide (most ≤ (l.length : Int))) = fl := by rw [hsf] at hfl; simpa using hfl
    clear hsf hfl
    go_enter Tryz.func74, Tryz.ntmps74
    go_wp2_with fail
    refine (CR.out _ _ HS.out).mono ?_
    intro e w2 he
    rcases he.split with ⟨a, t, v, ho, rfl, hv, hR, hF⟩ | ⟨c, m, ho, rfl, hF⟩
    rotate_left 1
    · exact on_panic rfl (.of_bad (ho.symm.trans HO.out) (((Fq.refl R w).set 3 _).trans hF))
    have HO := hide (ho.symm.trans HO.out)
    have HR := hide hR
    have HF := hide (((Fq.refl R w).set 3 _).trans hF)
    have HZ2 : Hid (∀ g, w2.heap.size ≤ g → Z g) := hide fun g hg => HZ.out g (Nat.le_trans HF.out.size hg)
    have HROW2 := hide (HROW.out.keep (Kp.of_fq (T := [92]) HF.out H.out (by decide)) (by decide))
    have HC : Hid (∀ w w' b ys, Kp inner Z w w' → (cPred Z) w b ys → (cPred Z) w' b ys) := hide (fun _ _ _ _ hk h => h.keep hk)
    have HOLD2 : Hid (∀ i b, l[i]? = some b → (cPred Z) w2 b ((xs.drop (i * 4)).take 4)) := hide fun i b hi => HC.out _ _ _ _ (Kp.of_fq HF.out H.out (by decide)) (HOLD.out i b hi)
    obtain ⟨kv, vv, rfl, hv⟩ := hv
    have HV := hide ((⟨Strs.mono hv.1 fun g hg => HZ.out g (by simpa [New] using hg), Moneys.mono hv.2 fun g hg => HZ.out g (by simpa [New] using hg)⟩ : Strs Z w2 a.kinds kv ∧ Moneys Z w2 a.values vv))
    clear hv
    clear he ho hR hF CR HS HROW HOLD H
    go_wp2_with (at_builtin; go_must (refine wpList_append_two _ rfl _ _ 24 rfl 0 92 iM _ 4 72 Tryz.underlying24 hiM zM0 zM1 zM2 rfl (by decide) _ _ _ rfl (HROW2.out.1.alloc _) ⟨w2.heap.size, 0, none⟩ 1 [.string ⟨a.name.toArray⟩, .int .i64 a.sort, kv, vv] rfl rfl (news_at rfl) (by intro u hu; simp only [List.mem_cons, List.not_mem_nil, or_false] at hu; rcases hu with rfl | rfl | rfl | rfl <;> first | rfl | exact rows_one HV.out.1 | exact rows_one HV.out.2) (by unfold maxLen; omega) (by omega) (Nat.zero_le _) ?_))
    intro g cap w4 hown hg
    obtain ⟨p1, p2, p3⟩ := put_behind (a := a) HR.out rfl HROW2.out HOLD2.out (⟨kv, vv, rfl, HV.out⟩) rfl HZ2.out HC.out (by decide) HZR.out hown hg
    have P1 := hide p1
    have P2 := hide p2
    have P3 := hide ((HF.out.fg _).trans p3)
    clear p1 p2 p3 hown hg HROW2 HOLD2 HR HF
    go_wp2_with fail
    go_ret
    exact .of_ok HO.out P1.out P2.out P3.out

set_option maxRecDepth 100000 in
set_option maxHeartbeats 1600000 in
theorem add_pred_amount (readM : M PredM) (CR : ∀ s w, Rd R L N s st w → Calls Tryz.prog 77 #[.pointer (some ⟨R, 0, none⟩)] w (Ends R L N st w (vPred (New w)) (readM s)))
    (Z : Nat → Prop) (l : List PredM) (tv : Value) (most : Int) (hl : l.length ≤ 70000) (hT : Rows Z 92 4 (cPred Z) w l tv) (hz : ∀ g, w.heap.size ≤ g → Z g) (hzR : ∀ g, Z g → R < g)
    (h : Rd R L N s st w) (o : Out PredM) (ho : addM l.length most readM s = o) :
    Calls Tryz.prog 74 #[.pointer (some ⟨R, 0, none⟩), tv, .int .i64 most, .func (.func 77) #[.pointer (some ⟨R, 0, none⟩)] #[]] w
      (EndsA R L N st w tv.ownBlock (fun w' a v => Rows Z 92 4 (cPred Z) w' (l ++ [a]) v) o) := by
  obtain ⟨iM, hiM, zM0, zM1, zM2⟩ := info_parts' info_pred
  have HO := hide (set_go ho)
  have H := hide h
  obtain ⟨xs, hrow, hold⟩ := hT
  have HROW := hide hrow
  have HOLD := hide hold
  have HZ := hide hz
  have HZR := hide hzR
  have CR := hide CR
  obtain ⟨ta, tc, rfl⟩ := slice_form hrow.1
  have c3 := h.c3
  have f3 := h.frz 3
  have hlt := h.lt
  clear h ho hrow hold hz hzR
  generalize hfl : (s.full || decide (most ≤ (l.length : Int))) = fl at HO
  have HS := hide (H.out.setFull fl)
  cases hsf : s.full with
  | true =>
    rw [hsf] at c3
    have hb : true = fl := by rw [hsf] at hfl; simpa using hfl
    subst hb
    clear hsf hfl
    go_enter Tryz.func74, Tryz.ntmps74
    go_wp2_with fail
    refine (CR.out _ _ HS.out).mono ?_
    intro e w2 he
    rcases he.split with ⟨a, t, v, ho, rfl, hv, hR, hF⟩ | ⟨c, m, ho, rfl, hF⟩
    rotate_left 1
    · exact on_panic rfl (.of_bad (ho.symm.trans HO.out) (((Fq.refl R w).set 3 _).trans hF))
    have HO := hide (ho.symm.trans HO.out)
    have HR := hide hR
    have HF := hide (((Fq.refl R w).set 3 _).trans hF)
    have HZ2 : Hid (∀ g, w2.heap.size ≤ g → Z g) := hide fun g hg => HZ.out g (Nat.le_trans HF.out.size hg)
    have HROW2 := hide (HROW.out.keep (Kp.of_fq (T := [92]) HF.out H.out (by decide)) (by decide))
    have HC : Hid (∀ w w' b ys, Kp inner Z w w' → (cPred Z) w b ys → (cPred Z) w' b ys) := hide (fun _ _ _ _ hk h => h.keep hk)
    have HOLD2 : Hid (∀ i b, l[i]? = some b → (cPred Z) w2 b ((xs.drop (i * 4)).take 4)) := hide fun i b hi => HC.out _ _ _ _ (Kp.of_fq HF.out H.out (by decide)) (HOLD.out i b hi)
    obtain ⟨kv, vv, rfl, hv⟩ := hv
    have HV := hide ((⟨Strs.mono hv.1 fun g hg => HZ.out g (by simpa [New] using hg), Moneys.mono hv.2 fun g hg => HZ.out g (by simpa [New] using hg)⟩ : Strs Z w2 a.kinds kv ∧ Moneys Z w2 a.values vv))
    clear hv
    clear he ho hR hF CR HS HROW HOLD H
    go_wp2_with (at_builtin; go_must (refine wpList_append_two _ rfl _ _ 24 rfl 0 92 iM _ 4 72 Tryz.underlying24 hiM zM0 zM1 zM2 rfl (by decide) _ _ _ rfl (HROW2.out.1.alloc _) ⟨w2.heap.size, 0, none⟩ 1 [.string ⟨a.name.toArray⟩, .int .i64 a.sort, kv, vv] rfl rfl (news_at rfl) (by intro u hu; simp only [List.mem_cons, List.not_mem_nil, or_false] at hu; rcases hu with rfl | rfl | rfl | rfl <;> first | rfl | exact rows_one HV.out.1 | exact rows_one HV.out.2) (by unfold maxLen; omega) (by omega) (Nat.zero_le _) ?_))
    intro g cap w4 hown hg
    obtain ⟨p1, p2, p3⟩ := put_behind (a := a) HR.out rfl HROW2.out HOLD2.out (⟨kv, vv, rfl, HV.out⟩) rfl HZ2.out HC.out (by decide) HZR.out hown hg
    have P1 := hide p1
    have P2 := hide p2
    have P3 := hide ((HF.out.fg _).trans p3)
    clear p1 p2 p3 hown hg HROW2 HOLD2 HR HF
    go_wp2_with fail
    go_ret
    exact .of_ok HO.out P1.out P2.out P3.out
  | false =>
    rw [hsf] at c3
    have hb : (decide (most ≤ (l.length : Int))) = fl := by rw [hsf] at hfl; simpa using hfl
    clear hsf hfl
    go_enter Tryz.func74, Tryz.ntmps74
    go_wp2_with fail
    refine (CR.out _ _ HS.out).mono ?_
    intro e w2 he
    rcases he.split with ⟨a, t, v, ho, rfl, hv, hR, hF⟩ | ⟨c, m, ho, rfl, hF⟩
    rotate_left 1
    · exact on_panic rfl (.of_bad (ho.symm.trans HO.out) (((Fq.refl R w).set 3 _).trans hF))
    have HO := hide (ho.symm.trans HO.out)
    have HR := hide hR
    have HF := hide (((Fq.refl R w).set 3 _).trans hF)
    have HZ2 : Hid (∀ g, w2.heap.size ≤ g → Z g) := hide fun g hg => HZ.out g (Nat.le_trans HF.out.size hg)
    have HROW2 := hide (HROW.out.keep (Kp.of_fq (T := [92]) HF.out H.out (by decide)) (by decide))
    have HC : Hid (∀ w w' b ys, Kp inner Z w w' → (cPred Z) w b ys → (cPred Z) w' b ys) := hide (fun _ _ _ _ hk h => h.keep hk)
    have HOLD2 : Hid (∀ i b, l[i]? = some b → (cPred Z) w2 b ((xs.drop (i * 4)).take 4)) := hide fun i b hi => HC.out _ _ _ _ (Kp.of_fq HF.out H.out (by decide)) (HOLD.out i b hi)
    obtain ⟨kv, vv, rfl, hv⟩ := hv
    have HV := hide ((⟨Strs.mono hv.1 fun g hg => HZ.out g (by simpa [New] using hg), Moneys.mono hv.2 fun g hg => HZ.out g (by simpa [New] using hg)⟩ : Strs Z w2 a.kinds kv ∧ Moneys Z w2 a.values vv))
    clear hv
    clear he ho hR hF CR HS HROW HOLD H
    go_wp2_with (at_builtin; go_must (refine wpList_append_two _ rfl _ _ 24 rfl 0 92 iM _ 4 72 Tryz.underlying24 hiM zM0 zM1 zM2 rfl (by decide) _ _ _ rfl (HROW2.out.1.alloc _) ⟨w2.heap.size, 0, none⟩ 1 [.string ⟨a.name.toArray⟩, .int .i64 a.sort, kv, vv] rfl rfl (news_at rfl) (by intro u hu; simp only [List.mem_cons, List.not_mem_nil, or_false] at hu; rcases hu with rfl | rfl | rfl | rfl <;> first | rfl | exact rows_one HV.out.1 | exact rows_one HV.out.2) (by unfold maxLen; omega) (by omega) (Nat.zero_le _) ?_))
    intro g cap w4 hown hg
    obtain ⟨p1, p2, p3⟩ := put_behind (a := a) HR.out rfl HROW2.out HOLD2.out (⟨kv, vv, rfl, HV.out⟩) rfl HZ2.out HC.out (by decide) HZR.out hown hg
    have P1 := hide p1
    have P2 := hide p2
    have P3 := hide ((HF.out.fg _).trans p3)
    clear p1 p2 p3 hown hg HROW2 HOLD2 HR HF
    go_wp2_with fail
    go_ret
    exact .of_ok HO.out P1.out P2.out P3.out

set_option maxRecDepth 100000 in
set_option maxHeartbeats 1600000 in
theorem add_class_class (readM : M (List Bytes)) (CR : ∀ s w, Rd R L N s st w → Calls Tryz.prog 79 #[.pointer (some ⟨R, 0, none⟩)] w (Ends R L N st w (Strs (New w)) (readM s)))
    (Z : Nat → Prop) (l : List (List Bytes)) (tv : Value) (most : Int) (hl : l.length ≤ 70000) (hT : Rows Z 22 1 (cClass Z) w l tv) (hz : ∀ g, w.heap.size ≤ g → Z g) (hzR : ∀ g, Z g → R < g)
    (h : Rd R L N s st w) (o : Out (List Bytes)) (ho : addM l.length most readM s = o) :
    Calls Tryz.prog 78 #[.pointer (some ⟨R, 0, none⟩), tv, .int .i64 most, .func (.func 79) #[.pointer (some ⟨R, 0, none⟩)] #[]] w
      (EndsA R L N st w tv.ownBlock (fun w' a v => Rows Z 22 1 (cClass Z) w' (l ++ [a]) v) o) := by
  obtain ⟨iM, hiM, zM0, zM1, zM2⟩ := info_parts' info_class
  have HO := hide (set_go ho)
  have H := hide h
  obtain ⟨xs, hrow, hold⟩ := hT
  have HROW := hide hrow
  have HOLD := hide hold
  have HZ := hide hz
  have HZR := hide hzR
  have CR := hide CR
  obtain ⟨ta, tc, rfl⟩ := slice_form hrow.1
  have c3 := h.c3
  have f3 := h.frz 3
  have hlt := h.lt
  clear h ho hrow hold hz hzR
  generalize hfl : (s.full || decide (most ≤ (l.length : Int))) = fl at HO
  have HS := hide (H.out.setFull fl)
  cases hsf : s.full with
  | true =>
    rw [hsf] at c3
    have hb : true = fl := by rw [hsf] at hfl; simpa using hfl
    subst hb
    clear hsf hfl
    go_enter Tryz.func78, Tryz.ntmps78
    go_wp2_with fail
    refine (CR.out _ _ HS.out).mono ?_
    intro e w2 he
    rcases he.split with ⟨a, t, v, ho, rfl, hv, hR, hF⟩ | ⟨c, m, ho, rfl, hF⟩
    rotate_left 1
    · exact on_panic rfl (.of_bad (ho.symm.trans HO.out) (((Fq.refl R w).set 3 _).trans hF))
    have HO := hide (ho.symm.trans HO.out)
    have HR := hide hR
    have HF := hide (((Fq.refl R w).set 3 _).trans hF)
    have HZ2 : Hid (∀ g, w2.heap.size ≤ g → Z g) := hide fun g hg => HZ.out g (Nat.le_trans HF.out.size hg)
    have HROW2 := hide (HROW.out.keep (Kp.of_fq (T := [22]) HF.out H.out (by decide)) (by decide))
    have HC : Hid (∀ w w' b ys, Kp inner Z w w' → (cClass Z) w b ys → (cClass Z) w' b ys) := hide (fun _ _ _ _ hk h => h.keep hk)
    have HOLD2 : Hid (∀ i b, l[i]? = some b → (cClass Z) w2 b ((xs.drop (i * 1)).take 1)) := hide fun i b hi => HC.out _ _ _ _ (Kp.of_fq HF.out H.out (by decide)) (HOLD.out i b hi)
    obtain ⟨pa, pc, rfl⟩ := rows_form hv
    have HV := hide (Strs.mono hv fun g hg => HZ.out g (by simpa [New] using hg))
    clear hv
    clear he ho hR hF CR HS HROW HOLD H
    go_wp2_with (at_builtin; go_must (refine wpList_append_two _ rfl _ _ 25 rfl 0 22 iM _ 1 24 Tryz.underlying25 hiM zM0 zM1 zM2 rfl (by decide) _ _ _ rfl (HROW2.out.1.alloc _) ⟨w2.heap.size, 0, none⟩ 1 [.slice pa a.length pc] rfl rfl (news_at rfl) (by intro u hu; simp only [List.mem_cons, List.not_mem_nil, or_false] at hu; rcases hu with rfl <;> first | rfl | exact rows_one HV.out) (by unfold maxLen; omega) (by omega) (Nat.zero_le _) ?_))
    intro g cap w4 hown hg
    obtain ⟨p1, p2, p3⟩ := put_behind (a := a) HR.out rfl HROW2.out HOLD2.out (⟨_, rfl, HV.out⟩) rfl HZ2.out HC.out (by decide) HZR.out hown hg
    have P1 := hide p1
    have P2 := hide p2
    have P3 := hide ((HF.out.fg _).trans p3)
    clear p1 p2 p3 hown hg HROW2 HOLD2 HR HF
    go_wp2_with fail
    go_ret
    exact .of_ok HO.out P1.out P2.out P3.out
  | false =>
    rw [hsf] at c3
    have hb : (decide (most ≤ (l.length : Int))) = fl := by rw [hsf] at hfl; simpa using hfl
    clear hsf hfl
    go_enter Tryz.func78, Tryz.ntmps78
    go_wp2_with fail
    refine (CR.out _ _ HS.out).mono ?_
    intro e w2 he
    rcases he.split with ⟨a, t, v, ho, rfl, hv, hR, hF⟩ | ⟨c, m, ho, rfl, hF⟩
    rotate_left 1
    · exact on_panic rfl (.of_bad (ho.symm.trans HO.out) (((Fq.refl R w).set 3 _).trans hF))
    have HO := hide (ho.symm.trans HO.out)
    have HR := hide hR
    have HF := hide (((Fq.refl R w).set 3 _).trans hF)
    have HZ2 : Hid (∀ g, w2.heap.size ≤ g → Z g) := hide fun g hg => HZ.out g (Nat.le_trans HF.out.size hg)
    have HROW2 := hide (HROW.out.keep (Kp.of_fq (T := [22]) HF.out H.out (by decide)) (by decide))
    have HC : Hid (∀ w w' b ys, Kp inner Z w w' → (cClass Z) w b ys → (cClass Z) w' b ys) := hide (fun _ _ _ _ hk h => h.keep hk)
    have HOLD2 : Hid (∀ i b, l[i]? = some b → (cClass Z) w2 b ((xs.drop (i * 1)).take 1)) := hide fun i b hi => HC.out _ _ _ _ (Kp.of_fq HF.out H.out (by decide)) (HOLD.out i b hi)
    obtain ⟨pa, pc, rfl⟩ := rows_form hv
    have HV := hide (Strs.mono hv fun g hg => HZ.out g (by simpa [New] using hg))
    clear hv
    clear he ho hR hF CR HS HROW HOLD H
    go_wp2_with (at_builtin; go_must (refine wpList_append_two _ rfl _ _ 25 rfl 0 22 iM _ 1 24 Tryz.underlying25 hiM zM0 zM1 zM2 rfl (by decide) _ _ _ rfl (HROW2.out.1.alloc _) ⟨w2.heap.size, 0, none⟩ 1 [.slice pa a.length pc] rfl rfl (news_at rfl) (by intro u hu; simp only [List.mem_cons, List.not_mem_nil, or_false] at hu; rcases hu with rfl <;> first | rfl | exact rows_one HV.out) (by unfold maxLen; omega) (by omega) (Nat.zero_le _) ?_))
    intro g cap w4 hown hg
    obtain ⟨p1, p2, p3⟩ := put_behind (a := a) HR.out rfl HROW2.out HOLD2.out (⟨_, rfl, HV.out⟩) rfl HZ2.out HC.out (by decide) HZR.out hown hg
    have P1 := hide p1
    have P2 := hide p2
    have P3 := hide ((HF.out.fg _).trans p3)
    clear p1 p2 p3 hown hg HROW2 HOLD2 HR HF
    go_wp2_with fail
    go_ret
    exact .of_ok HO.out P1.out P2.out P3.out

set_option maxRecDepth 100000 in
set_option maxHeartbeats 1600000 in
theorem add_source_source (readM : M (Bytes × Int)) (CR : ∀ s w, Rd R L N s st w → Calls Tryz.prog 81 #[.pointer (some ⟨R, 0, none⟩)] w (Ends R L N st w vSrc (readM s)))
    (Z : Nat → Prop) (l : List (Bytes × Int)) (tv : Value) (most : Int) (hl : l.length ≤ 70000) (hT : Rows Z 126 2 cSrc w l tv) (hz : ∀ g, w.heap.size ≤ g → Z g) (hzR : ∀ g, Z g → R < g)
    (h : Rd R L N s st w) (o : Out (Bytes × Int)) (ho : addM l.length most readM s = o) :
    Calls Tryz.prog 80 #[.pointer (some ⟨R, 0, none⟩), tv, .int .i64 most, .func (.func 81) #[.pointer (some ⟨R, 0, none⟩)] #[]] w
      (EndsA R L N st w tv.ownBlock (fun w' a v => Rows Z 126 2 cSrc w' (l ++ [a]) v) o) := by
  obtain ⟨iM, hiM, zM0, zM1, zM2⟩ := info_parts' info_source
  have HO := hide (set_go ho)
  have H := hide h
  obtain ⟨xs, hrow, hold⟩ := hT
  have HROW := hide hrow
  have HOLD := hide hold
  have HZ := hide hz
  have HZR := hide hzR
  have CR := hide CR
  obtain ⟨ta, tc, rfl⟩ := slice_form hrow.1
  have c3 := h.c3
  have f3 := h.frz 3
  have hlt := h.lt
  clear h ho hrow hold hz hzR
  generalize hfl : (s.full || decide (most ≤ (l.length : Int))) = fl at HO
  have HS := hide (H.out.setFull fl)
  cases hsf : s.full with
  | true =>
    rw [hsf] at c3
    have hb : true = fl := by rw [hsf] at hfl; simpa using hfl
    subst hb
    clear hsf hfl
    go_enter Tryz.func80, Tryz.ntmps80
    go_wp2_with fail
    refine (CR.out _ _ HS.out).mono ?_
    intro e w2 he
    rcases he.split with ⟨a, t, v, ho, rfl, hv, hR, hF⟩ | ⟨c, m, ho, rfl, hF⟩
    rotate_left 1
    · exact on_panic rfl (.of_bad (ho.symm.trans HO.out) (((Fq.refl R w).set 3 _).trans hF))
    have HO := hide (ho.symm.trans HO.out)
    have HR := hide hR
    have HF := hide (((Fq.refl R w).set 3 _).trans hF)
    have HZ2 : Hid (∀ g, w2.heap.size ≤ g → Z g) := hide fun g hg => HZ.out g (Nat.le_trans HF.out.size hg)
    have HROW2 := hide (HROW.out.keep (Kp.of_fq (T := [126]) HF.out H.out (by decide)) (by decide))
    have HC : Hid (∀ w w' b ys, Kp [] Z w w' → cSrc w b ys → cSrc w' b ys) := hide (fun _ _ _ _ _ h => h)
    have HOLD2 : Hid (∀ i b, l[i]? = some b → cSrc w2 b ((xs.drop (i * 2)).take 2)) := hide fun i b hi => HC.out _ _ _ _ (Kp.of_fq HF.out H.out (by decide)) (HOLD.out i b hi)
    cases hv
    clear he ho hR hF CR HS HROW HOLD H
    go_wp2_with (at_builtin; go_must (refine wpList_append_two _ rfl _ _ 26 rfl 0 126 iM _ 2 24 Tryz.underlying26 hiM zM0 zM1 zM2 rfl (by decide) _ _ _ rfl (HROW2.out.1.alloc _) ⟨w2.heap.size, 0, none⟩ 1 [.string ⟨a.1.toArray⟩, .int .i64 a.2] rfl rfl (news_at rfl) (by simp [Value.oneCell']) (by unfold maxLen; omega) (by omega) (Nat.zero_le _) ?_))
    intro g cap w4 hown hg
    obtain ⟨p1, p2, p3⟩ := put_behind (a := a) HR.out rfl HROW2.out HOLD2.out (rfl) rfl HZ2.out HC.out (by decide) HZR.out hown hg
    have P1 := hide p1
    have P2 := hide p2
    have P3 := hide ((HF.out.fg _).trans p3)
    clear p1 p2 p3 hown hg HROW2 HOLD2 HR HF
    go_wp2_with fail
    go_ret
    exact .of_ok HO.out P1.out P2.out P3.out
  | false =>
    rw [hsf] at c3
    have hb : (decide (most ≤ (l.length : Int))) = fl := by rw [hsf] at hfl; simpa using hfl
    clear hsf hfl
    go_enter Tryz.func80, Tryz.ntmps80
    go_wp2_with fail
    refine (CR.out _ _ HS.out).mono ?_
    intro e w2 he
    rcases he.split with ⟨a, t, v, ho, rfl, hv, hR, hF⟩ | ⟨c, m, ho, rfl, hF⟩
    rotate_left 1
    · exact on_panic rfl (.of_bad (ho.symm.trans HO.out) (((Fq.refl R w).set 3 _).trans hF))
    have HO := hide (ho.symm.trans HO.out)
    have HR := hide hR
    have HF := hide (((Fq.refl R w).set 3 _).trans hF)
    have HZ2 : Hid (∀ g, w2.heap.size ≤ g → Z g) := hide fun g hg => HZ.out g (Nat.le_trans HF.out.size hg)
    have HROW2 := hide (HROW.out.keep (Kp.of_fq (T := [126]) HF.out H.out (by decide)) (by decide))
    have HC : Hid (∀ w w' b ys, Kp [] Z w w' → cSrc w b ys → cSrc w' b ys) := hide (fun _ _ _ _ _ h => h)
    have HOLD2 : Hid (∀ i b, l[i]? = some b → cSrc w2 b ((xs.drop (i * 2)).take 2)) := hide fun i b hi => HC.out _ _ _ _ (Kp.of_fq HF.out H.out (by decide)) (HOLD.out i b hi)
    cases hv
    clear he ho hR hF CR HS HROW HOLD H
    go_wp2_with (at_builtin; go_must (refine wpList_append_two _ rfl _ _ 26 rfl 0 126 iM _ 2 24 Tryz.underlying26 hiM zM0 zM1 zM2 rfl (by decide) _ _ _ rfl (HROW2.out.1.alloc _) ⟨w2.heap.size, 0, none⟩ 1 [.string ⟨a.1.toArray⟩, .int .i64 a.2] rfl rfl (news_at rfl) (by simp [Value.oneCell']) (by unfold maxLen; omega) (by omega) (Nat.zero_le _) ?_))
    intro g cap w4 hown hg
    obtain ⟨p1, p2, p3⟩ := put_behind (a := a) HR.out rfl HROW2.out HOLD2.out (rfl) rfl HZ2.out HC.out (by decide) HZR.out hown hg
    have P1 := hide p1
    have P2 := hide p2
    have P3 := hide ((HF.out.fg _).trans p3)
    clear p1 p2 p3 hown hg HROW2 HOLD2 HR HF
    go_wp2_with fail
    go_ret
    exact .of_ok HO.out P1.out P2.out P3.out

set_option maxRecDepth 100000 in
set_option maxHeartbeats 1600000 in
theorem add_rule_rule (readM : M RuleM) (CR : ∀ s w, Rd R L N s st w → Calls Tryz.prog 83 #[.pointer (some ⟨R, 0, none⟩)] w (Ends R L N st w (vRule (New w)) (readM s)))
    (Z : Nat → Prop) (l : List RuleM) (tv : Value) (most : Int) (hl : l.length ≤ 70000) (hT : Rows Z 100 11 (cRule Z) w l tv) (hz : ∀ g, w.heap.size ≤ g → Z g) (hzR : ∀ g, Z g → R < g)
    (h : Rd R L N s st w) (o : Out RuleM) (ho : addM l.length most readM s = o) :
    Calls Tryz.prog 82 #[.pointer (some ⟨R, 0, none⟩), tv, .int .i64 most, .func (.func 83) #[.pointer (some ⟨R, 0, none⟩)] #[]] w
      (EndsA R L N st w tv.ownBlock (fun w' a v => Rows Z 100 11 (cRule Z) w' (l ++ [a]) v) o) := by
  obtain ⟨iM, hiM, zM0, zM1, zM2⟩ := info_parts' info_rule
  have HO := hide (set_go ho)
  have H := hide h
  obtain ⟨xs, hrow, hold⟩ := hT
  have HROW := hide hrow
  have HOLD := hide hold
  have HZ := hide hz
  have HZR := hide hzR
  have CR := hide CR
  obtain ⟨ta, tc, rfl⟩ := slice_form hrow.1
  have c3 := h.c3
  have f3 := h.frz 3
  have hlt := h.lt
  clear h ho hrow hold hz hzR
  generalize hfl : (s.full || decide (most ≤ (l.length : Int))) = fl at HO
  have HS := hide (H.out.setFull fl)
  cases hsf : s.full with
  | true =>
    rw [hsf] at c3
    have hb : true = fl := by rw [hsf] at hfl; simpa using hfl
    subst hb
    clear hsf hfl
    go_enter Tryz.func82, Tryz.ntmps82
    go_wp2_with fail
    refine (CR.out _ _ HS.out).mono ?_
    intro e w2 he
    rcases he.split with ⟨a, t, v, ho, rfl, hv, hR, hF⟩ | ⟨c, m, ho, rfl, hF⟩
    rotate_left 1
    · exact on_panic rfl (.of_bad (ho.symm.trans HO.out) (((Fq.refl R w).set 3 _).trans hF))
    have HO := hide (ho.symm.trans HO.out)
    have HR := hide hR
    have HF := hide (((Fq.refl R w).set 3 _).trans hF)
    have HZ2 : Hid (∀ g, w2.heap.size ≤ g → Z g) := hide fun g hg => HZ.out g (Nat.le_trans HF.out.size hg)
    have HROW2 := hide (HROW.out.keep (Kp.of_fq (T := [100]) HF.out H.out (by decide)) (by decide))
    have HC : Hid (∀ w w' b ys, Kp inner Z w w' → (cRule Z) w b ys → (cRule Z) w' b ys) := hide (fun _ _ _ _ hk h => h.keep hk)
    have HOLD2 : Hid (∀ i b, l[i]? = some b → (cRule Z) w2 b ((xs.drop (i * 11)).take 11)) := hide fun i b hi => HC.out _ _ _ _ (Kp.of_fq HF.out H.out (by decide)) (HOLD.out i b hi)
    obtain ⟨bv, av, rfl, hv⟩ := hv
    have HV := hide ((⟨Prems.mono hv.1 fun g hg => HZ.out g (by simpa [New] using hg), Strs.mono hv.2 fun g hg => HZ.out g (by simpa [New] using hg)⟩ : Prems Z w2 a.body bv ∧ Strs Z w2 a.head.args av))
    clear hv
    clear he ho hR hF CR HS HROW HOLD H
    go_wp2_with (at_builtin; go_must (refine wpList_append_two _ rfl _ _ 27 rfl 0 100 iM _ 11 144 Tryz.underlying27 hiM zM0 zM1 zM2 rfl (by decide) _ _ _ rfl (HROW2.out.1.alloc _) ⟨w2.heap.size, 0, none⟩ 1 [.string ⟨a.name.toArray⟩, .string ⟨a.source.toArray⟩, .int .i64 a.day, .int .i64 a.till, bv, .int .i64 a.arrow, .bool a.head.neg, .string ⟨a.head.pred.toArray⟩, av, .bool a.head.hasValue, .int .i64 a.head.value] rfl rfl (news_at rfl) (by intro u hu; simp only [List.mem_cons, List.not_mem_nil, or_false] at hu; rcases hu with rfl | rfl | rfl | rfl | rfl | rfl | rfl | rfl | rfl | rfl | rfl <;> first | rfl | exact rows_one HV.out.1 | exact rows_one HV.out.2) (by unfold maxLen; omega) (by omega) (Nat.zero_le _) ?_))
    intro g cap w4 hown hg
    obtain ⟨p1, p2, p3⟩ := put_behind (a := a) HR.out rfl HROW2.out HOLD2.out (⟨bv, av, rfl, HV.out⟩) rfl HZ2.out HC.out (by decide) HZR.out hown hg
    have P1 := hide p1
    have P2 := hide p2
    have P3 := hide ((HF.out.fg _).trans p3)
    clear p1 p2 p3 hown hg HROW2 HOLD2 HR HF
    go_wp2_with fail
    go_ret
    exact .of_ok HO.out P1.out P2.out P3.out
  | false =>
    rw [hsf] at c3
    have hb : (decide (most ≤ (l.length : Int))) = fl := by rw [hsf] at hfl; simpa using hfl
    clear hsf hfl
    go_enter Tryz.func82, Tryz.ntmps82
    go_wp2_with fail
    refine (CR.out _ _ HS.out).mono ?_
    intro e w2 he
    rcases he.split with ⟨a, t, v, ho, rfl, hv, hR, hF⟩ | ⟨c, m, ho, rfl, hF⟩
    rotate_left 1
    · exact on_panic rfl (.of_bad (ho.symm.trans HO.out) (((Fq.refl R w).set 3 _).trans hF))
    have HO := hide (ho.symm.trans HO.out)
    have HR := hide hR
    have HF := hide (((Fq.refl R w).set 3 _).trans hF)
    have HZ2 : Hid (∀ g, w2.heap.size ≤ g → Z g) := hide fun g hg => HZ.out g (Nat.le_trans HF.out.size hg)
    have HROW2 := hide (HROW.out.keep (Kp.of_fq (T := [100]) HF.out H.out (by decide)) (by decide))
    have HC : Hid (∀ w w' b ys, Kp inner Z w w' → (cRule Z) w b ys → (cRule Z) w' b ys) := hide (fun _ _ _ _ hk h => h.keep hk)
    have HOLD2 : Hid (∀ i b, l[i]? = some b → (cRule Z) w2 b ((xs.drop (i * 11)).take 11)) := hide fun i b hi => HC.out _ _ _ _ (Kp.of_fq HF.out H.out (by decide)) (HOLD.out i b hi)
    obtain ⟨bv, av, rfl, hv⟩ := hv
    have HV := hide ((⟨Prems.mono hv.1 fun g hg => HZ.out g (by simpa [New] using hg), Strs.mono hv.2 fun g hg => HZ.out g (by simpa [New] using hg)⟩ : Prems Z w2 a.body bv ∧ Strs Z w2 a.head.args av))
    clear hv
    clear he ho hR hF CR HS HROW HOLD H
    go_wp2_with (at_builtin; go_must (refine wpList_append_two _ rfl _ _ 27 rfl 0 100 iM _ 11 144 Tryz.underlying27 hiM zM0 zM1 zM2 rfl (by decide) _ _ _ rfl (HROW2.out.1.alloc _) ⟨w2.heap.size, 0, none⟩ 1 [.string ⟨a.name.toArray⟩, .string ⟨a.source.toArray⟩, .int .i64 a.day, .int .i64 a.till, bv, .int .i64 a.arrow, .bool a.head.neg, .string ⟨a.head.pred.toArray⟩, av, .bool a.head.hasValue, .int .i64 a.head.value] rfl rfl (news_at rfl) (by intro u hu; simp only [List.mem_cons, List.not_mem_nil, or_false] at hu; rcases hu with rfl | rfl | rfl | rfl | rfl | rfl | rfl | rfl | rfl | rfl | rfl <;> first | rfl | exact rows_one HV.out.1 | exact rows_one HV.out.2) (by unfold maxLen; omega) (by omega) (Nat.zero_le _) ?_))
    intro g cap w4 hown hg
    obtain ⟨p1, p2, p3⟩ := put_behind (a := a) HR.out rfl HROW2.out HOLD2.out (⟨bv, av, rfl, HV.out⟩) rfl HZ2.out HC.out (by decide) HZR.out hown hg
    have P1 := hide p1
    have P2 := hide p2
    have P3 := hide ((HF.out.fg _).trans p3)
    clear p1 p2 p3 hown hg HROW2 HOLD2 HR HF
    go_wp2_with fail
    go_ret
    exact .of_ok HO.out P1.out P2.out P3.out

set_option maxRecDepth 100000 in
set_option maxHeartbeats 1600000 in
theorem add_except_exception (readM : M (Bytes × Bytes)) (CR : ∀ s w, Rd R L N s st w → Calls Tryz.prog 85 #[.pointer (some ⟨R, 0, none⟩)] w (Ends R L N st w vM (readM s)))
    (Z : Nat → Prop) (l : List (Bytes × Bytes)) (tv : Value) (most : Int) (hl : l.length ≤ 70000) (hT : Rows Z 128 2 cM w l tv) (hz : ∀ g, w.heap.size ≤ g → Z g) (hzR : ∀ g, Z g → R < g)
    (h : Rd R L N s st w) (o : Out (Bytes × Bytes)) (ho : addM l.length most readM s = o) :
    Calls Tryz.prog 84 #[.pointer (some ⟨R, 0, none⟩), tv, .int .i64 most, .func (.func 85) #[.pointer (some ⟨R, 0, none⟩)] #[]] w
      (EndsA R L N st w tv.ownBlock (fun w' a v => Rows Z 128 2 cM w' (l ++ [a]) v) o) := by
  obtain ⟨iM, hiM, zM0, zM1, zM2⟩ := info_parts' info_except
  have HO := hide (set_go ho)
  have H := hide h
  obtain ⟨xs, hrow, hold⟩ := hT
  have HROW := hide hrow
  have HOLD := hide hold
  have HZ := hide hz
  have HZR := hide hzR
  have CR := hide CR
  obtain ⟨ta, tc, rfl⟩ := slice_form hrow.1
  have c3 := h.c3
  have f3 := h.frz 3
  have hlt := h.lt
  clear h ho hrow hold hz hzR
  generalize hfl : (s.full || decide (most ≤ (l.length : Int))) = fl at HO
  have HS := hide (H.out.setFull fl)
  cases hsf : s.full with
  | true =>
    rw [hsf] at c3
    have hb : true = fl := by rw [hsf] at hfl; simpa using hfl
    subst hb
    clear hsf hfl
    go_enter Tryz.func84, Tryz.ntmps84
    go_wp2_with fail
    refine (CR.out _ _ HS.out).mono ?_
    intro e w2 he
    rcases he.split with ⟨a, t, v, ho, rfl, hv, hR, hF⟩ | ⟨c, m, ho, rfl, hF⟩
    rotate_left 1
    · exact on_panic rfl (.of_bad (ho.symm.trans HO.out) (((Fq.refl R w).set 3 _).trans hF))
    have HO := hide (ho.symm.trans HO.out)
    have HR := hide hR
    have HF := hide (((Fq.refl R w).set 3 _).trans hF)
    have HZ2 : Hid (∀ g, w2.heap.size ≤ g → Z g) := hide fun g hg => HZ.out g (Nat.le_trans HF.out.size hg)
    have HROW2 := hide (HROW.out.keep (Kp.of_fq (T := [128]) HF.out H.out (by decide)) (by decide))
    have HC : Hid (∀ w w' b ys, Kp [] Z w w' → cM w b ys → cM w' b ys) := hide (fun _ _ _ _ _ h => h)
    have HOLD2 : Hid (∀ i b, l[i]? = some b → cM w2 b ((xs.drop (i * 2)).take 2)) := hide fun i b hi => HC.out _ _ _ _ (Kp.of_fq HF.out H.out (by decide)) (HOLD.out i b hi)
    cases hv
    clear he ho hR hF CR HS HROW HOLD H
    go_wp2_with (at_builtin; go_must (refine wpList_append_two _ rfl _ _ 28 rfl 0 128 iM _ 2 32 Tryz.underlying28 hiM zM0 zM1 zM2 rfl (by decide) _ _ _ rfl (HROW2.out.1.alloc _) ⟨w2.heap.size, 0, none⟩ 1 [.string ⟨a.1.toArray⟩, .string ⟨a.2.toArray⟩] rfl rfl (news_at rfl) (by simp [Value.oneCell']) (by unfold maxLen; omega) (by omega) (Nat.zero_le _) ?_))
    intro g cap w4 hown hg
    obtain ⟨p1, p2, p3⟩ := put_behind (a := a) HR.out rfl HROW2.out HOLD2.out (rfl) rfl HZ2.out HC.out (by decide) HZR.out hown hg
    have P1 := hide p1
    have P2 := hide p2
    have P3 := hide ((HF.out.fg _).trans p3)
    clear p1 p2 p3 hown hg HROW2 HOLD2 HR HF
    go_wp2_with fail
    go_ret
    exact .of_ok HO.out P1.out P2.out P3.out
  | false =>
    rw [hsf] at c3
    have hb : (decide (most ≤ (l.length : Int))) = fl := by rw [hsf] at hfl; simpa using hfl
    clear hsf hfl
    go_enter Tryz.func84, Tryz.ntmps84
    go_wp2_with fail
    refine (CR.out _ _ HS.out).mono ?_
    intro e w2 he
    rcases he.split with ⟨a, t, v, ho, rfl, hv, hR, hF⟩ | ⟨c, m, ho, rfl, hF⟩
    rotate_left 1
    · exact on_panic rfl (.of_bad (ho.symm.trans HO.out) (((Fq.refl R w).set 3 _).trans hF))
    have HO := hide (ho.symm.trans HO.out)
    have HR := hide hR
    have HF := hide (((Fq.refl R w).set 3 _).trans hF)
    have HZ2 : Hid (∀ g, w2.heap.size ≤ g → Z g) := hide fun g hg => HZ.out g (Nat.le_trans HF.out.size hg)
    have HROW2 := hide (HROW.out.keep (Kp.of_fq (T := [128]) HF.out H.out (by decide)) (by decide))
    have HC : Hid (∀ w w' b ys, Kp [] Z w w' → cM w b ys → cM w' b ys) := hide (fun _ _ _ _ _ h => h)
    have HOLD2 : Hid (∀ i b, l[i]? = some b → cM w2 b ((xs.drop (i * 2)).take 2)) := hide fun i b hi => HC.out _ _ _ _ (Kp.of_fq HF.out H.out (by decide)) (HOLD.out i b hi)
    cases hv
    clear he ho hR hF CR HS HROW HOLD H
    go_wp2_with (at_builtin; go_must (refine wpList_append_two _ rfl _ _ 28 rfl 0 128 iM _ 2 32 Tryz.underlying28 hiM zM0 zM1 zM2 rfl (by decide) _ _ _ rfl (HROW2.out.1.alloc _) ⟨w2.heap.size, 0, none⟩ 1 [.string ⟨a.1.toArray⟩, .string ⟨a.2.toArray⟩] rfl rfl (news_at rfl) (by simp [Value.oneCell']) (by unfold maxLen; omega) (by omega) (Nat.zero_le _) ?_))
    intro g cap w4 hown hg
    obtain ⟨p1, p2, p3⟩ := put_behind (a := a) HR.out rfl HROW2.out HOLD2.out (rfl) rfl HZ2.out HC.out (by decide) HZR.out hown hg
    have P1 := hide p1
    have P2 := hide p2
    have P3 := hide ((HF.out.fg _).trans p3)
    clear p1 p2 p3 hown hg HROW2 HOLD2 HR HF
    go_wp2_with fail
    go_ret
    exact .of_ok HO.out P1.out P2.out P3.out

set_option maxRecDepth 100000 in
set_option maxHeartbeats 1600000 in
theorem add_total_total (readM : M TotalM) (CR : ∀ s w, Rd R L N s st w → Calls Tryz.prog 87 #[.pointer (some ⟨R, 0, none⟩)] w (Ends R L N st w (vTotal (New w)) (readM s)))
    (Z : Nat → Prop) (l : List TotalM) (tv : Value) (most : Int) (hl : l.length ≤ 70000) (hT : Rows Z 111 5 (cTotal Z) w l tv) (hz : ∀ g, w.heap.size ≤ g → Z g) (hzR : ∀ g, Z g → R < g)
    (h : Rd R L N s st w) (o : Out TotalM) (ho : addM l.length most readM s = o) :
    Calls Tryz.prog 86 #[.pointer (some ⟨R, 0, none⟩), tv, .int .i64 most, .func (.func 87) #[.pointer (some ⟨R, 0, none⟩)] #[]] w
      (EndsA R L N st w tv.ownBlock (fun w' a v => Rows Z 111 5 (cTotal Z) w' (l ++ [a]) v) o) := by
  obtain ⟨iM, hiM, zM0, zM1, zM2⟩ := info_parts' info_total
  have HO := hide (set_go ho)
  have H := hide h
  obtain ⟨xs, hrow, hold⟩ := hT
  have HROW := hide hrow
  have HOLD := hide hold
  have HZ := hide hz
  have HZR := hide hzR
  have CR := hide CR
  obtain ⟨ta, tc, rfl⟩ := slice_form hrow.1
  have c3 := h.c3
  have f3 := h.frz 3
  have hlt := h.lt
  clear h ho hrow hold hz hzR
  generalize hfl : (s.full || decide (most ≤ (l.length : Int))) = fl at HO
  have HS := hide (H.out.setFull fl)
  cases hsf : s.full with
  | true =>
    rw [hsf] at c3
    have hb : true = fl := by rw [hsf] at hfl; simpa using hfl
    subst hb
    clear hsf hfl
    go_enter Tryz.func86, Tryz.ntmps86
    go_wp2_with fail
    refine (CR.out _ _ HS.out).mono ?_
    intro e w2 he
    rcases he.split with ⟨a, t, v, ho, rfl, hv, hR, hF⟩ | ⟨c, m, ho, rfl, hF⟩
    rotate_left 1
    · exact on_panic rfl (.of_bad (ho.symm.trans HO.out) (((Fq.refl R w).set 3 _).trans hF))
    have HO := hide (ho.symm.trans HO.out)
    have HR := hide hR
    have HF := hide (((Fq.refl R w).set 3 _).trans hF)
    have HZ2 : Hid (∀ g, w2.heap.size ≤ g → Z g) := hide fun g hg => HZ.out g (Nat.le_trans HF.out.size hg)
    have HROW2 := hide (HROW.out.keep (Kp.of_fq (T := [111]) HF.out H.out (by decide)) (by decide))
    have HC : Hid (∀ w w' b ys, Kp inner Z w w' → (cTotal Z) w b ys → (cTotal Z) w' b ys) := hide (fun _ _ _ _ hk h => h.keep hk)
    have HOLD2 : Hid (∀ i b, l[i]? = some b → (cTotal Z) w2 b ((xs.drop (i * 5)).take 5)) := hide fun i b hi => HC.out _ _ _ _ (Kp.of_fq HF.out H.out (by decide)) (HOLD.out i b hi)
    obtain ⟨pv, rfl, hv⟩ := hv
    have HV := hide (Strs.mono hv fun g hg => HZ.out g (by simpa [New] using hg))
    clear hv
    clear he ho hR hF CR HS HROW HOLD H
    go_wp2_with (at_builtin; go_must (refine wpList_append_two _ rfl _ _ 29 rfl 0 111 iM _ 5 72 Tryz.underlying29 hiM zM0 zM1 zM2 rfl (by decide) _ _ _ rfl (HROW2.out.1.alloc _) ⟨w2.heap.size, 0, none⟩ 1 [.string ⟨a.name.toArray⟩, .string ⟨a.kind.toArray⟩, pv, .bool a.hasCap, .int .i64 a.cap] rfl rfl (news_at rfl) (by intro u hu; simp only [List.mem_cons, List.not_mem_nil, or_false] at hu; rcases hu with rfl | rfl | rfl | rfl | rfl <;> first | rfl | exact rows_one HV.out) (by unfold maxLen; omega) (by omega) (Nat.zero_le _) ?_))
    intro g cap w4 hown hg
    obtain ⟨p1, p2, p3⟩ := put_behind (a := a) HR.out rfl HROW2.out HOLD2.out (⟨pv, rfl, HV.out⟩) rfl HZ2.out HC.out (by decide) HZR.out hown hg
    have P1 := hide p1
    have P2 := hide p2
    have P3 := hide ((HF.out.fg _).trans p3)
    clear p1 p2 p3 hown hg HROW2 HOLD2 HR HF
    go_wp2_with fail
    go_ret
    exact .of_ok HO.out P1.out P2.out P3.out
  | false =>
    rw [hsf] at c3
    have hb : (decide (most ≤ (l.length : Int))) = fl := by rw [hsf] at hfl; simpa using hfl
    clear hsf hfl
    go_enter Tryz.func86, Tryz.ntmps86
    go_wp2_with fail
    refine (CR.out _ _ HS.out).mono ?_
    intro e w2 he
    rcases he.split with ⟨a, t, v, ho, rfl, hv, hR, hF⟩ | ⟨c, m, ho, rfl, hF⟩
    rotate_left 1
    · exact on_panic rfl (.of_bad (ho.symm.trans HO.out) (((Fq.refl R w).set 3 _).trans hF))
    have HO := hide (ho.symm.trans HO.out)
    have HR := hide hR
    have HF := hide (((Fq.refl R w).set 3 _).trans hF)
    have HZ2 : Hid (∀ g, w2.heap.size ≤ g → Z g) := hide fun g hg => HZ.out g (Nat.le_trans HF.out.size hg)
    have HROW2 := hide (HROW.out.keep (Kp.of_fq (T := [111]) HF.out H.out (by decide)) (by decide))
    have HC : Hid (∀ w w' b ys, Kp inner Z w w' → (cTotal Z) w b ys → (cTotal Z) w' b ys) := hide (fun _ _ _ _ hk h => h.keep hk)
    have HOLD2 : Hid (∀ i b, l[i]? = some b → (cTotal Z) w2 b ((xs.drop (i * 5)).take 5)) := hide fun i b hi => HC.out _ _ _ _ (Kp.of_fq HF.out H.out (by decide)) (HOLD.out i b hi)
    obtain ⟨pv, rfl, hv⟩ := hv
    have HV := hide (Strs.mono hv fun g hg => HZ.out g (by simpa [New] using hg))
    clear hv
    clear he ho hR hF CR HS HROW HOLD H
    go_wp2_with (at_builtin; go_must (refine wpList_append_two _ rfl _ _ 29 rfl 0 111 iM _ 5 72 Tryz.underlying29 hiM zM0 zM1 zM2 rfl (by decide) _ _ _ rfl (HROW2.out.1.alloc _) ⟨w2.heap.size, 0, none⟩ 1 [.string ⟨a.name.toArray⟩, .string ⟨a.kind.toArray⟩, pv, .bool a.hasCap, .int .i64 a.cap] rfl rfl (news_at rfl) (by intro u hu; simp only [List.mem_cons, List.not_mem_nil, or_false] at hu; rcases hu with rfl | rfl | rfl | rfl | rfl <;> first | rfl | exact rows_one HV.out) (by unfold maxLen; omega) (by omega) (Nat.zero_le _) ?_))
    intro g cap w4 hown hg
    obtain ⟨p1, p2, p3⟩ := put_behind (a := a) HR.out rfl HROW2.out HOLD2.out (⟨pv, rfl, HV.out⟩) rfl HZ2.out HC.out (by decide) HZR.out hown hg
    have P1 := hide p1
    have P2 := hide p2
    have P3 := hide ((HF.out.fg _).trans p3)
    clear p1 p2 p3 hown hg HROW2 HOLD2 HR HF
    go_wp2_with fail
    go_ret
    exact .of_ok HO.out P1.out P2.out P3.out

end
end Go.Proofs.YthnjmfkiohgkkaaGreatDoor.Sy
