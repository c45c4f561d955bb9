import Derived.Test.YtbpphlmakmeoaaaGreatDoorData
import Derived.Test.YtbpphlmakmeoaaaGreatDoorBook
import Derived.Test.YtbpphlmakmeoaaaGreatDoorReadAll
import Derived.LoopTactic
import Derived.LoopN
set_option maxRecDepth 100000
set_option maxHeartbeats 1600000
namespace Go.Proofs.YtbpphlmakmeoaaaGreatDoor.Sy
open Go.RowKit
structure Fg (R : Nat) (row : Option Nat) (w w' : World) : Prop where
 os : w'.os = w.os
 tape : w'.tape = w.tape
 output : w'.output = w.output
 size : w.heap.size ≤ w'.heap.size
 block : ∀ k, k < w.heap.size → k ≠ R → some k ≠ row → w'.heap[k]? = w.heap[k]?
theorem Fq.fg {R : Nat} {w w' : World} (h : Fq R w w') (row : Option Nat) : Fg R row w w' := ⟨h.os, h.tape, h.output, h.size, fun k hk hn _ => h.block k hk hn⟩
theorem Fg.fq {R : Nat} {w w' : World} (h : Fg R none w w') : Fq R w w' := ⟨h.os, h.tape, h.output, h.size, fun k hk hn => h.block k hk hn (by simp)⟩
theorem Fg.trans {R : Nat} {row : Option Nat} {a b c : World} (h : Fg R row a b) (k : Fg R row b c) : Fg R row a c :=
 ⟨k.os.trans h.os, k.tape.trans h.tape, k.output.trans h.output, Nat.le_trans h.size k.size, fun i hi hn hr => (k.block i (Nat.lt_of_lt_of_le hi h.size) hn hr).trans (h.block i hi hn hr)⟩
def EndsA {α : Type} (R : Nat) (L : List fw) (N : Nat) (st : St9) (w : World) (row : Option Nat) (rep : World → α → Value → Prop) (o : Out α) (e : Ending) (w' : World) : Prop :=
 match o with
 | .ok a t => ∃ v, e = .returned v ∧ rep w' a v ∧ Rd R L N t st w' ∧ Fg R row w w'
 | .bad c n => e = .panicked [{ v := .iface 118 (.agg #[.int .i64 c, .int .i64 (eI L N n)]), recovered := false }] ∧ Fq R w w'
theorem EndsA.split {α : Type} {R : Nat} {L : List fw} {N : Nat} {st : St9} {w : World} {row : Option Nat} {rep : World → α → Value → Prop} {o : Out α} {e : Ending} {w' : World} (h : EndsA R L N st w row rep o e w') :
    (∃ a t v, o = .ok a t ∧ e = .returned v ∧ rep w' a v ∧ Rd R L N t st w' ∧ Fg R row w w') ∨
    (∃ c n, o = .bad c n ∧ e = .panicked [{ v := .iface 118 (.agg #[.int .i64 c, .int .i64 (eI L N n)]), recovered := false }] ∧ Fq R w w') := by
 cases o with
 | ok a t => obtain ⟨v, h⟩ := h; exact .inl ⟨a, t, v, rfl, h⟩
 | bad c n => exact .inr ⟨c, n, rfl, h⟩
theorem EndsA.of_ok {α : Type} {R : Nat} {L : List fw} {N : Nat} {st : St9} {w : World} {row : Option Nat} {rep : World → α → Value → Prop} {o : Out α} {a : α} {t : RS} {v : Value} {w' : World} (ho : .ok a t = o) (hv : rep w' a v)
    (hR : Rd R L N t st w') (hF : Fg R row w w') : EndsA R L N st w row rep o (.returned v) w' := by subst ho; exact ⟨v, rfl, hv, hR, hF⟩
theorem EndsA.of_bad {α : Type} {R : Nat} {L : List fw} {N : Nat} {st : St9} {w : World} {row : Option Nat} {rep : World → α → Value → Prop} {o : Out α} {c : Int} {n : Nat} {w' : World} (ho : .bad c n = o)
    (hF : Fq R w w') : EndsA R L N st w row rep o (.panicked [{ v := .iface 118 (.agg #[.int .i64 c, .int .i64 (eI L N n)]), recovered := false }]) w' := by subst ho; exact ⟨rfl, hF⟩
theorem fY {P : Program} {e : Nat} {z : Option Value} {k b : Nat} (h : (P.info? e).map (fun i => (i.zero, i.size, i.bytes)) = some (z, k, b)) : ∃ i, P.info? e = some i ∧ i.zero = z ∧ i.size = k ∧ i.bytes = b := by
 cases hi : P.info? e with
 | none => rw [hi] at h; cases h
 | some i => rw [hi] at h; simp at h; exact ⟨i, rfl, h⟩
theorem gd {w : World} {e k : Nat} {v : Value} {n : Nat} {xs : List Value} (h : w.ownsRow 0 e k v n xs) : ∃ a c, v = .slice a n c := by
 rcases h.2 with ⟨h1, h2⟩ | ⟨g, Ab, Aa, h1, _⟩
 · exact ⟨none, 0, by rw [h1, h2]⟩
 · exact ⟨_, _, h1⟩
theorem fB {α : Type} {Z : Nat → Prop} {e k : Nat} {c : World → α → List Value → Prop} {w : World} {l : List α} {v : Value} (h : Rows Z e k c w l v) : v.oneCell' = true := by
 obtain ⟨xs, h1, _⟩ := h
 obtain ⟨a, c, rfl⟩ := gd h1.1
 rfl
theorem fP {w : World} {cs : List Value} {t : Nat} {g : Nat} (hg : g = w.heap.size) : ∀ j u, cs[j]? = some u → (w.alloc (.cells cs.toArray t)).cell? ((⟨g, 0, none⟩ : Addr).add j) = some u := by
 subst hg
 intro j u hu
 rw [show ((⟨w.heap.size, 0, none⟩ : Addr).add j) = ⟨w.heap.size, j, none⟩ from by unfold Addr.add; split <;> simp_all, cell_of_row _ _ _ _ t _ (heap_alloc_new w _)]
 simpa using hu
theorem fk {α : Type} {R : Nat} {L : List fw} {N : Nat} {t : RS} {st : St9} {Z : Nat → Prop} {e k : Nat} {c : World → α → List Value → Prop} {T : List Nat} {w w3 w4 : World} {l : List α} {tv : Value} {news : List Value} {a : α} {g cap ty : Nat}
    {xs : List Value} (hR : Rd R L N t st w) (hw3 : w3 = w.alloc (.cells news.toArray ty))
    (hrow : Row Z e k w tv l.length xs) (hold : ∀ i b, l[i]? = some b → c w b ((xs.drop (i * k)).take k)) (hnew : c w a news) (hn : news.length = k) (hz : ∀ g, w.heap.size ≤ g → Z g)
    (hc : ∀ w w' b ys, Kp T Z w w' → c w b ys → c w' b ys) (heT : e ∉ T) (hzR : ∀ g, Z g → R < g)
    (hown : w4.ownsRow 0 e k (.slice (some ⟨g, 0, none⟩) (l.length + 1) cap) (l.length + 1) (xs ++ news))
    (hg : (tv.ownBlock = some g ∧ w3.grownBy w4 (some g)) ∨ (g = w.heap.size + 1 ∧ w3.grownBy w4 none)) :
    Rows Z e k c w4 (l ++ [a]) (.slice (some ⟨g, 0, none⟩) (l.length + 1) cap) ∧ Rd R L N t st w4 ∧ Fg R tv.ownBlock w w4 := by
 have Ai : w3.heap.size = w.heap.size + 1 := by rw [hw3]; simp
 have Aa : ∀ k, k < w.heap.size → w3.heap[k]? = w.heap[k]? := fun k hk => by rw [hw3]; exact Go.heap_alloc_old w _ hk
 have hown' : ∀ g, tv.ownBlock = some g → ∃ Ac, w.heap[g]? = some (.cells Ac e (0, 0)) := by
  intro g hg
  rcases hrow.1.2 with ⟨h1, _⟩ | ⟨g', cap, Ac, h1, _, h3, _⟩
  · rw [h1] at hg; cases hg
  · rw [h1] at hg; cases hg; exact ⟨Ac, h3⟩
 have Ag : ∀ g, tv.ownBlock = some g → g < w.heap.size := fun g hg => (hrow.1.lt g hg).2
 obtain ⟨Ad, Ae, Ab⟩ : ∃ Ad, (Ad = none ∨ Ad = tv.ownBlock) ∧ w3.grownBy w4 Ad := by
  rcases hg with ⟨h1, h2⟩ | ⟨_, h2⟩
  · exact ⟨some g, .inr h1.symm, h2⟩
  · exact ⟨none, .inl rfl, h2⟩
 have hF : Fg R tv.ownBlock w w4 := by
  refine ⟨Ab.os.trans (by rw [hw3]; rfl), Ab.tape.trans (by rw [hw3]; rfl), Ab.output.trans (by rw [hw3]; rfl), by have := Ab.size; omega, fun k hk _ hne => ?_⟩
  rw [Ab.block k (by omega) (by rcases Ae with rfl | rfl <;> first | exact hne | simp), Aa k hk]
 have hK : Kp T Z w w4 := by
  have h1 : Kp T Z w w3 := Kp.of_below ⟨by rw [hw3]; rfl, by rw [hw3]; rfl, by rw [hw3]; rfl, by omega, fun k hk => Aa k hk⟩
  refine h1.trans (Kp.of_grown Ab (fun g hg => ?_) heT)
  rcases Ae with rfl | rfl
  · cases hg
  · obtain ⟨Ac, Af⟩ := hown' g hg
    exact ⟨Ac, (Aa g (Ag g hg)).trans Af⟩
 refine ⟨Rows.snoc ⟨hown, fun g' hg' => ?_⟩ hrow.1.1 hn (fun i b hi => hc _ _ _ _ hK (hold i b hi)) (hc _ _ _ _ hK hnew), hR.keep hF.size fun k hk => ?_, hF⟩
 · simp only [Value.ownBlock, Option.some.injEq] at hg'
   subst hg'
   rcases hg with ⟨h1, _⟩ | ⟨h1, _⟩
   · exact hrow.2 _ h1
   · exact hz _ (by omega)
 · have Ah := hR.lt
   exact (Ab.block k (by omega) (by
    rcases Ae with rfl | rfl
    · simp
    · intro h'
      have := hzR k (hrow.2 k h'.symm)
      omega)).trans (Aa k (by omega))
end Go.Proofs.YtbpphlmakmeoaaaGreatDoor.Sy
namespace Go.Proofs.YtbpphlmakmeoaaaGreatDoor.Sy
open Go.RowKit
theorem oi : (Tryz.prog.info? 9).map (fun i => (i.zero, i.size, i.bytes)) = some (some (.string ⟨#[]⟩), 1, 16) := by kernel_rfl
theorem uO : (Tryz.prog.info? 45).map (fun i => (i.zero, i.size, i.bytes)) = some (some (.int .i64 0), 1, 8) := by kernel_rfl
theorem wW : (Tryz.prog.info? 192).map (fun i => (i.zero, i.size, i.bytes)) = some (some (.agg #[.int .i64 0, .string ⟨#[]⟩, .slice none 0 0, .int .i64 0]), 4, 56) := by kernel_rfl
theorem wo : (Tryz.prog.info? 108).map (fun i => (i.zero, i.size, i.bytes)) = some (some (.agg #[.int .i64 0, .bool false, .string ⟨#[]⟩, .slice none 0 0, .bool false, .int .i64 0, .slice none 0 0, .int .i64 0, .slice none 0 0, .string ⟨#[]⟩, .string ⟨#[]⟩]), 11, 160) := by kernel_rfl
section
variable (R : Nat) (L : List fw) (N : Nat) (s : RS) (st : St9) (w : World)
theorem lT (readM : M ee) (CR : ∀ s w, Rd R L N s st w → Calls Tryz.prog 183 #[.pointer (some ⟨R, 0, none⟩)] w (Ends R L N st w nf (readM s)))
    (Z : Nat → Prop) (l : List ee) (tv : Value) (most : Int) (hl : l.length ≤ 70000) (hT : Rows Z 9 1 cS w l tv) (hz : ∀ g, w.heap.size ≤ g → Z g) (hzR : ∀ g, Z g → R < g)
    (h : Rd R L N s st w) (o : Out ee) (ho : gO l.length most readM s = o) :
    Calls Tryz.prog 182 #[.pointer (some ⟨R, 0, none⟩), tv, .int .i64 most, .func (.func 183) #[.pointer (some ⟨R, 0, none⟩)] #[]] w
     (EndsA R L N st w tv.ownBlock (fun w' a v => Rows Z 9 1 cS w' (l ++ [a]) v) o) := by
 obtain ⟨iM, Ak, Aj, Ai, Am⟩ := fY oi
 have HO := ec (io ho)
 have H := ec h
 obtain ⟨xs, Af, Ag⟩ := hT
 have Ad := ec Af
 have Ae := ec Ag
 have HZ := ec hz
 have Al := ec hzR
 have CR := ec CR
 obtain ⟨ta, tc, rfl⟩ := gd Af.1
 have c3 := h.c3
 have f3 := h.frz 3
 have Ao := h.lt
 clear h ho Af Ag hz hzR
 generalize hfl : (s.full || decide (most ≤ (l.length : Int))) = fl at HO
 have HS := ec (H.out.setFull fl)
 cases hsf : s.full with
 | true =>
  rw [hsf] at c3
  have hb : true = fl := by rw [hsf] at hfl; simpa using hfl
  subst hb
  clear hsf hfl
  go_enter Tryz.func182, Tryz.ntmps182
  go_wp2_with fail
  refine (CR.out _ _ HS.out).mono ?_
  intro e w2 he
  rcases he.split with ⟨a, t, v, ho, rfl, hv, hR, hF⟩ | ⟨c, m, ho, rfl, hF⟩
  rotate_left 1
  · exact eg rfl (.of_bad (ho.symm.trans HO.out) (((Fq.refl R w).set 3 _).trans hF))
  have HO := ec (ho.symm.trans HO.out)
  have HR := ec hR
  have HF := ec (((Fq.refl R w).set 3 _).trans hF)
  have Ah : Hid (∀ g, w2.heap.size ≤ g → Z g) := ec fun g hg => HZ.out g (Nat.le_trans HF.out.size hg)
  have Aa := ec (Ad.out.keep (Kp.of_fq (T := [9]) HF.out H.out (by decide)) (by decide))
  have HC : Hid (∀ w w' b ys, Kp [] Z w w' → cS w b ys → cS w' b ys) := ec (fun _ _ _ _ _ h => h)
  have Ab : Hid (∀ i b, l[i]? = some b → cS w2 b ((xs.drop (i * 1)).take 1)) := ec fun i b hi => HC.out _ _ _ _ (Kp.of_fq HF.out H.out (by decide)) (Ae.out i b hi)
  cases hv
  clear he ho hR hF CR HS Ad Ae H
  go_wp2_with (at_builtin; go_must (refine eO _ rfl _ _ 22 rfl 0 9 iM _ 1 16 Tryz.underlying22 Ak Aj Ai Am rfl (by decide) _ _ _ rfl (Aa.out.1.alloc _) ⟨w2.heap.size, 0, none⟩ 1 [.string ⟨a.toArray⟩] rfl rfl (fP rfl) (by simp [Value.oneCell']) (by unfold maxLen; omega) (by omega) (Nat.zero_le _) ?_))
  intro g An w4 Ac hg
  obtain ⟨p1, p2, p3⟩ := fk (a := a) HR.out rfl Aa.out Ab.out (rfl) rfl Ah.out HC.out (by decide) Al.out Ac hg
  have P1 := ec p1
  have P2 := ec p2
  have P3 := ec ((HF.out.fg _).trans p3)
  clear p1 p2 p3 Ac hg Aa Ab HR HF
  go_wp2_with fail
  go_ret
  exact .of_ok HO.out P1.out P2.out P3.out
 | false =>
  rw [hsf] at c3
  have hb : (decide (most ≤ (l.length : Int))) = fl := by rw [hsf] at hfl; simpa using hfl
  clear hsf hfl
  go_enter Tryz.func182, Tryz.ntmps182
  go_wp2_with fail
  refine (CR.out _ _ HS.out).mono ?_
  intro e w2 he
  rcases he.split with ⟨a, t, v, ho, rfl, hv, hR, hF⟩ | ⟨c, m, ho, rfl, hF⟩
  rotate_left 1
  · exact eg rfl (.of_bad (ho.symm.trans HO.out) (((Fq.refl R w).set 3 _).trans hF))
  have HO := ec (ho.symm.trans HO.out)
  have HR := ec hR
  have HF := ec (((Fq.refl R w).set 3 _).trans hF)
  have Ah : Hid (∀ g, w2.heap.size ≤ g → Z g) := ec fun g hg => HZ.out g (Nat.le_trans HF.out.size hg)
  have Aa := ec (Ad.out.keep (Kp.of_fq (T := [9]) HF.out H.out (by decide)) (by decide))
  have HC : Hid (∀ w w' b ys, Kp [] Z w w' → cS w b ys → cS w' b ys) := ec (fun _ _ _ _ _ h => h)
  have Ab : Hid (∀ i b, l[i]? = some b → cS w2 b ((xs.drop (i * 1)).take 1)) := ec fun i b hi => HC.out _ _ _ _ (Kp.of_fq HF.out H.out (by decide)) (Ae.out i b hi)
  cases hv
  clear he ho hR hF CR HS Ad Ae H
  go_wp2_with (at_builtin; go_must (refine eO _ rfl _ _ 22 rfl 0 9 iM _ 1 16 Tryz.underlying22 Ak Aj Ai Am rfl (by decide) _ _ _ rfl (Aa.out.1.alloc _) ⟨w2.heap.size, 0, none⟩ 1 [.string ⟨a.toArray⟩] rfl rfl (fP rfl) (by simp [Value.oneCell']) (by unfold maxLen; omega) (by omega) (Nat.zero_le _) ?_))
  intro g An w4 Ac hg
  obtain ⟨p1, p2, p3⟩ := fk (a := a) HR.out rfl Aa.out Ab.out (rfl) rfl Ah.out HC.out (by decide) Al.out Ac hg
  have P1 := ec p1
  have P2 := ec p2
  have P3 := ec ((HF.out.fg _).trans p3)
  clear p1 p2 p3 Ac hg Aa Ab HR HF
  go_wp2_with fail
  go_ret
  exact .of_ok HO.out P1.out P2.out P3.out
theorem pS (readM : M ee) (CR : ∀ s w, Rd R L N s st w → Calls Tryz.prog 300 #[.pointer (some ⟨R, 0, none⟩)] w (Ends R L N st w nf (readM s)))
    (Z : Nat → Prop) (l : List ee) (tv : Value) (most : Int) (hl : l.length ≤ 70000) (hT : Rows Z 9 1 cS w l tv) (hz : ∀ g, w.heap.size ≤ g → Z g) (hzR : ∀ g, Z g → R < g)
    (h : Rd R L N s st w) (o : Out ee) (ho : gO l.length most readM s = o) :
    Calls Tryz.prog 182 #[.pointer (some ⟨R, 0, none⟩), tv, .int .i64 most, .func (.func 300) #[.pointer (some ⟨R, 0, none⟩)] #[]] w
     (EndsA R L N st w tv.ownBlock (fun w' a v => Rows Z 9 1 cS w' (l ++ [a]) v) o) := by
 obtain ⟨iM, Ak, Aj, Ai, Am⟩ := fY oi
 have HO := ec (io ho)
 have H := ec h
 obtain ⟨xs, Af, Ag⟩ := hT
 have Ad := ec Af
 have Ae := ec Ag
 have HZ := ec hz
 have Al := ec hzR
 have CR := ec CR
 obtain ⟨ta, tc, rfl⟩ := gd Af.1
 have c3 := h.c3
 have f3 := h.frz 3
 have Ao := h.lt
 clear h ho Af Ag hz hzR
 generalize hfl : (s.full || decide (most ≤ (l.length : Int))) = fl at HO
 have HS := ec (H.out.setFull fl)
 cases hsf : s.full with
 | true =>
  rw [hsf] at c3
  have hb : true = fl := by rw [hsf] at hfl; simpa using hfl
  subst hb
  clear hsf hfl
  go_enter Tryz.func182, Tryz.ntmps182
  go_wp2_with fail
  refine (CR.out _ _ HS.out).mono ?_
  intro e w2 he
  rcases he.split with ⟨a, t, v, ho, rfl, hv, hR, hF⟩ | ⟨c, m, ho, rfl, hF⟩
  rotate_left 1
  · exact eg rfl (.of_bad (ho.symm.trans HO.out) (((Fq.refl R w).set 3 _).trans hF))
  have HO := ec (ho.symm.trans HO.out)
  have HR := ec hR
  have HF := ec (((Fq.refl R w).set 3 _).trans hF)
  have Ah : Hid (∀ g, w2.heap.size ≤ g → Z g) := ec fun g hg => HZ.out g (Nat.le_trans HF.out.size hg)
  have Aa := ec (Ad.out.keep (Kp.of_fq (T := [9]) HF.out H.out (by decide)) (by decide))
  have HC : Hid (∀ w w' b ys, Kp [] Z w w' → cS w b ys → cS w' b ys) := ec (fun _ _ _ _ _ h => h)
  have Ab : Hid (∀ i b, l[i]? = some b → cS w2 b ((xs.drop (i * 1)).take 1)) := ec fun i b hi => HC.out _ _ _ _ (Kp.of_fq HF.out H.out (by decide)) (Ae.out i b hi)
  cases hv
  clear he ho hR hF CR HS Ad Ae H
  go_wp2_with (at_builtin; go_must (refine eO _ rfl _ _ 22 rfl 0 9 iM _ 1 16 Tryz.underlying22 Ak Aj Ai Am rfl (by decide) _ _ _ rfl (Aa.out.1.alloc _) ⟨w2.heap.size, 0, none⟩ 1 [.string ⟨a.toArray⟩] rfl rfl (fP rfl) (by simp [Value.oneCell']) (by unfold maxLen; omega) (by omega) (Nat.zero_le _) ?_))
  intro g An w4 Ac hg
  obtain ⟨p1, p2, p3⟩ := fk (a := a) HR.out rfl Aa.out Ab.out (rfl) rfl Ah.out HC.out (by decide) Al.out Ac hg
  have P1 := ec p1
  have P2 := ec p2
  have P3 := ec ((HF.out.fg _).trans p3)
  clear p1 p2 p3 Ac hg Aa Ab HR HF
  go_wp2_with fail
  go_ret
  exact .of_ok HO.out P1.out P2.out P3.out
 | false =>
  rw [hsf] at c3
  have hb : (decide (most ≤ (l.length : Int))) = fl := by rw [hsf] at hfl; simpa using hfl
  clear hsf hfl
  go_enter Tryz.func182, Tryz.ntmps182
  go_wp2_with fail
  refine (CR.out _ _ HS.out).mono ?_
  intro e w2 he
  rcases he.split with ⟨a, t, v, ho, rfl, hv, hR, hF⟩ | ⟨c, m, ho, rfl, hF⟩
  rotate_left 1
  · exact eg rfl (.of_bad (ho.symm.trans HO.out) (((Fq.refl R w).set 3 _).trans hF))
  have HO := ec (ho.symm.trans HO.out)
  have HR := ec hR
  have HF := ec (((Fq.refl R w).set 3 _).trans hF)
  have Ah : Hid (∀ g, w2.heap.size ≤ g → Z g) := ec fun g hg => HZ.out g (Nat.le_trans HF.out.size hg)
  have Aa := ec (Ad.out.keep (Kp.of_fq (T := [9]) HF.out H.out (by decide)) (by decide))
  have HC : Hid (∀ w w' b ys, Kp [] Z w w' → cS w b ys → cS w' b ys) := ec (fun _ _ _ _ _ h => h)
  have Ab : Hid (∀ i b, l[i]? = some b → cS w2 b ((xs.drop (i * 1)).take 1)) := ec fun i b hi => HC.out _ _ _ _ (Kp.of_fq HF.out H.out (by decide)) (Ae.out i b hi)
  cases hv
  clear he ho hR hF CR HS Ad Ae H
  go_wp2_with (at_builtin; go_must (refine eO _ rfl _ _ 22 rfl 0 9 iM _ 1 16 Tryz.underlying22 Ak Aj Ai Am rfl (by decide) _ _ _ rfl (Aa.out.1.alloc _) ⟨w2.heap.size, 0, none⟩ 1 [.string ⟨a.toArray⟩] rfl rfl (fP rfl) (by simp [Value.oneCell']) (by unfold maxLen; omega) (by omega) (Nat.zero_le _) ?_))
  intro g An w4 Ac hg
  obtain ⟨p1, p2, p3⟩ := fk (a := a) HR.out rfl Aa.out Ab.out (rfl) rfl Ah.out HC.out (by decide) Al.out Ac hg
  have P1 := ec p1
  have P2 := ec p2
  have P3 := ec ((HF.out.fg _).trans p3)
  clear p1 p2 p3 Ac hg Aa Ab HR HF
  go_wp2_with fail
  go_ret
  exact .of_ok HO.out P1.out P2.out P3.out
theorem py (readM : M Int) (CR : ∀ s w, Rd R L N s st w → Calls Tryz.prog 246 #[.pointer (some ⟨R, 0, none⟩)] w (Ends R L N st w ti (readM s)))
    (Z : Nat → Prop) (l : List Int) (tv : Value) (most : Int) (hl : l.length ≤ 70000) (hT : Rows Z 45 1 cI w l tv) (hz : ∀ g, w.heap.size ≤ g → Z g) (hzR : ∀ g, Z g → R < g)
    (h : Rd R L N s st w) (o : Out Int) (ho : gO l.length most readM s = o) :
    Calls Tryz.prog 292 #[.pointer (some ⟨R, 0, none⟩), tv, .int .i64 most, .func (.func 246) #[.pointer (some ⟨R, 0, none⟩)] #[]] w
     (EndsA R L N st w tv.ownBlock (fun w' a v => Rows Z 45 1 cI w' (l ++ [a]) v) o) := by
 obtain ⟨iM, Ak, Aj, Ai, Am⟩ := fY uO
 have HO := ec (io ho)
 have H := ec h
 obtain ⟨xs, Af, Ag⟩ := hT
 have Ad := ec Af
 have Ae := ec Ag
 have HZ := ec hz
 have Al := ec hzR
 have CR := ec CR
 obtain ⟨ta, tc, rfl⟩ := gd Af.1
 have c3 := h.c3
 have f3 := h.frz 3
 have Ao := h.lt
 clear h ho Af Ag hz hzR
 generalize hfl : (s.full || decide (most ≤ (l.length : Int))) = fl at HO
 have HS := ec (H.out.setFull fl)
 cases hsf : s.full with
 | true =>
  rw [hsf] at c3
  have hb : true = fl := by rw [hsf] at hfl; simpa using hfl
  subst hb
  clear hsf hfl
  go_enter Tryz.func292, Tryz.ntmps292
  go_wp2_with fail
  refine (CR.out _ _ HS.out).mono ?_
  intro e w2 he
  rcases he.split with ⟨a, t, v, ho, rfl, hv, hR, hF⟩ | ⟨c, m, ho, rfl, hF⟩
  rotate_left 1
  · exact eg rfl (.of_bad (ho.symm.trans HO.out) (((Fq.refl R w).set 3 _).trans hF))
  have HO := ec (ho.symm.trans HO.out)
  have HR := ec hR
  have HF := ec (((Fq.refl R w).set 3 _).trans hF)
  have Ah : Hid (∀ g, w2.heap.size ≤ g → Z g) := ec fun g hg => HZ.out g (Nat.le_trans HF.out.size hg)
  have Aa := ec (Ad.out.keep (Kp.of_fq (T := [45]) HF.out H.out (by decide)) (by decide))
  have HC : Hid (∀ w w' b ys, Kp [] Z w w' → cI w b ys → cI w' b ys) := ec (fun _ _ _ _ _ h => h)
  have Ab : Hid (∀ i b, l[i]? = some b → cI w2 b ((xs.drop (i * 1)).take 1)) := ec fun i b hi => HC.out _ _ _ _ (Kp.of_fq HF.out H.out (by decide)) (Ae.out i b hi)
  cases hv
  clear he ho hR hF CR HS Ad Ae H
  go_wp2_with (at_builtin; go_must (refine eO _ rfl _ _ 126 rfl 0 45 iM _ 1 8 Tryz.underlying126 Ak Aj Ai Am rfl (by decide) _ _ _ rfl (Aa.out.1.alloc _) ⟨w2.heap.size, 0, none⟩ 1 [.int .i64 a] rfl rfl (fP rfl) (by simp [Value.oneCell']) (by unfold maxLen; omega) (by omega) (Nat.zero_le _) ?_))
  intro g An w4 Ac hg
  obtain ⟨p1, p2, p3⟩ := fk (a := a) HR.out rfl Aa.out Ab.out (rfl) rfl Ah.out HC.out (by decide) Al.out Ac hg
  have P1 := ec p1
  have P2 := ec p2
  have P3 := ec ((HF.out.fg _).trans p3)
  clear p1 p2 p3 Ac hg Aa Ab HR HF
  go_wp2_with fail
  go_ret
  exact .of_ok HO.out P1.out P2.out P3.out
 | false =>
  rw [hsf] at c3
  have hb : (decide (most ≤ (l.length : Int))) = fl := by rw [hsf] at hfl; simpa using hfl
  clear hsf hfl
  go_enter Tryz.func292, Tryz.ntmps292
  go_wp2_with fail
  refine (CR.out _ _ HS.out).mono ?_
  intro e w2 he
  rcases he.split with ⟨a, t, v, ho, rfl, hv, hR, hF⟩ | ⟨c, m, ho, rfl, hF⟩
  rotate_left 1
  · exact eg rfl (.of_bad (ho.symm.trans HO.out) (((Fq.refl R w).set 3 _).trans hF))
  have HO := ec (ho.symm.trans HO.out)
  have HR := ec hR
  have HF := ec (((Fq.refl R w).set 3 _).trans hF)
  have Ah : Hid (∀ g, w2.heap.size ≤ g → Z g) := ec fun g hg => HZ.out g (Nat.le_trans HF.out.size hg)
  have Aa := ec (Ad.out.keep (Kp.of_fq (T := [45]) HF.out H.out (by decide)) (by decide))
  have HC : Hid (∀ w w' b ys, Kp [] Z w w' → cI w b ys → cI w' b ys) := ec (fun _ _ _ _ _ h => h)
  have Ab : Hid (∀ i b, l[i]? = some b → cI w2 b ((xs.drop (i * 1)).take 1)) := ec fun i b hi => HC.out _ _ _ _ (Kp.of_fq HF.out H.out (by decide)) (Ae.out i b hi)
  cases hv
  clear he ho hR hF CR HS Ad Ae H
  go_wp2_with (at_builtin; go_must (refine eO _ rfl _ _ 126 rfl 0 45 iM _ 1 8 Tryz.underlying126 Ak Aj Ai Am rfl (by decide) _ _ _ rfl (Aa.out.1.alloc _) ⟨w2.heap.size, 0, none⟩ 1 [.int .i64 a] rfl rfl (fP rfl) (by simp [Value.oneCell']) (by unfold maxLen; omega) (by omega) (Nat.zero_le _) ?_))
  intro g An w4 Ac hg
  obtain ⟨p1, p2, p3⟩ := fk (a := a) HR.out rfl Aa.out Ab.out (rfl) rfl Ah.out HC.out (by decide) Al.out Ac hg
  have P1 := ec p1
  have P2 := ec p2
  have P3 := ec ((HF.out.fg _).trans p3)
  clear p1 p2 p3 Ac hg Aa Ab HR HF
  go_wp2_with fail
  go_ret
  exact .of_ok HO.out P1.out P2.out P3.out
theorem ss (readM : M ft) (CR : ∀ s w, Rd R L N s st w → Calls Tryz.prog 347 #[.pointer (some ⟨R, 0, none⟩)] w (Ends R L N st w (kg (fo w)) (readM s)))
    (Z : Nat → Prop) (l : List ft) (tv : Value) (most : Int) (hl : l.length ≤ 70000) (hT : Rows Z 192 4 (cTerm Z) w l tv) (hz : ∀ g, w.heap.size ≤ g → Z g) (hzR : ∀ g, Z g → R < g)
    (h : Rd R L N s st w) (o : Out ft) (ho : gO l.length most readM s = o) :
    Calls Tryz.prog 362 #[.pointer (some ⟨R, 0, none⟩), tv, .int .i64 most, .func (.func 347) #[.pointer (some ⟨R, 0, none⟩)] #[]] w
     (EndsA R L N st w tv.ownBlock (fun w' a v => Rows Z 192 4 (cTerm Z) w' (l ++ [a]) v) o) := by
 obtain ⟨iM, Ak, Aj, Ai, Am⟩ := fY wW
 have HO := ec (io ho)
 have H := ec h
 obtain ⟨xs, Af, Ag⟩ := hT
 have Ad := ec Af
 have Ae := ec Ag
 have HZ := ec hz
 have Al := ec hzR
 have CR := ec CR
 obtain ⟨ta, tc, rfl⟩ := gd Af.1
 have c3 := h.c3
 have f3 := h.frz 3
 have Ao := h.lt
 clear h ho Af Ag hz hzR
 generalize hfl : (s.full || decide (most ≤ (l.length : Int))) = fl at HO
 have HS := ec (H.out.setFull fl)
 cases hsf : s.full with
 | true =>
  rw [hsf] at c3
  have hb : true = fl := by rw [hsf] at hfl; simpa using hfl
  subst hb
  clear hsf hfl
  go_enter Tryz.func362, Tryz.ntmps362
  go_wp2_with fail
  refine (CR.out _ _ HS.out).mono ?_
  intro e w2 he
  rcases he.split with ⟨a, t, v, ho, rfl, hv, hR, hF⟩ | ⟨c, m, ho, rfl, hF⟩
  rotate_left 1
  · exact eg rfl (.of_bad (ho.symm.trans HO.out) (((Fq.refl R w).set 3 _).trans hF))
  have HO := ec (ho.symm.trans HO.out)
  have HR := ec hR
  have HF := ec (((Fq.refl R w).set 3 _).trans hF)
  have Ah : Hid (∀ g, w2.heap.size ≤ g → Z g) := ec fun g hg => HZ.out g (Nat.le_trans HF.out.size hg)
  have Aa := ec (Ad.out.keep (Kp.of_fq (T := [192]) HF.out H.out (by decide)) (by decide))
  have HC : Hid (∀ w w' b ys, Kp [9] Z w w' → (cTerm Z) w b ys → (cTerm Z) w' b ys) := ec (fun _ _ _ _ hk h => h.keep hk (by decide))
  have Ab : Hid (∀ i b, l[i]? = some b → (cTerm Z) w2 b ((xs.drop (i * 4)).take 4)) := ec fun i b hi => HC.out _ _ _ _ (Kp.of_fq HF.out H.out (by decide)) (Ae.out i b hi)
  obtain ⟨av, rfl, hv⟩ := hv
  have HV := ec (Strs.mono hv fun g hg => HZ.out g (by simpa [fo] using hg))
  clear hv
  clear he ho hR hF CR HS Ad Ae H
  go_wp2_with (at_builtin; go_must (refine eO _ rfl _ _ 50 rfl 0 192 iM _ 4 56 Tryz.underlying50 Ak Aj Ai Am rfl (by decide) _ _ _ rfl (Aa.out.1.alloc _) ⟨w2.heap.size, 0, none⟩ 1 [.int .i64 a.coef, .string ⟨a.pred.toArray⟩, av, .int .i64 a.value] rfl rfl (fP rfl) (by intro u hu; simp only [List.mem_cons, List.not_mem_nil, or_false] at hu; rcases hu with rfl | rfl | rfl | rfl <;> first | rfl | exact fB HV.out) (by unfold maxLen; omega) (by omega) (Nat.zero_le _) ?_))
  intro g An w4 Ac hg
  obtain ⟨p1, p2, p3⟩ := fk (a := a) HR.out rfl Aa.out Ab.out (⟨av, rfl, HV.out⟩) rfl Ah.out HC.out (by decide) Al.out Ac hg
  have P1 := ec p1
  have P2 := ec p2
  have P3 := ec ((HF.out.fg _).trans p3)
  clear p1 p2 p3 Ac hg Aa Ab HR HF
  go_wp2_with fail
  go_ret
  exact .of_ok HO.out P1.out P2.out P3.out
 | false =>
  rw [hsf] at c3
  have hb : (decide (most ≤ (l.length : Int))) = fl := by rw [hsf] at hfl; simpa using hfl
  clear hsf hfl
  go_enter Tryz.func362, Tryz.ntmps362
  go_wp2_with fail
  refine (CR.out _ _ HS.out).mono ?_
  intro e w2 he
  rcases he.split with ⟨a, t, v, ho, rfl, hv, hR, hF⟩ | ⟨c, m, ho, rfl, hF⟩
  rotate_left 1
  · exact eg rfl (.of_bad (ho.symm.trans HO.out) (((Fq.refl R w).set 3 _).trans hF))
  have HO := ec (ho.symm.trans HO.out)
  have HR := ec hR
  have HF := ec (((Fq.refl R w).set 3 _).trans hF)
  have Ah : Hid (∀ g, w2.heap.size ≤ g → Z g) := ec fun g hg => HZ.out g (Nat.le_trans HF.out.size hg)
  have Aa := ec (Ad.out.keep (Kp.of_fq (T := [192]) HF.out H.out (by decide)) (by decide))
  have HC : Hid (∀ w w' b ys, Kp [9] Z w w' → (cTerm Z) w b ys → (cTerm Z) w' b ys) := ec (fun _ _ _ _ hk h => h.keep hk (by decide))
  have Ab : Hid (∀ i b, l[i]? = some b → (cTerm Z) w2 b ((xs.drop (i * 4)).take 4)) := ec fun i b hi => HC.out _ _ _ _ (Kp.of_fq HF.out H.out (by decide)) (Ae.out i b hi)
  obtain ⟨av, rfl, hv⟩ := hv
  have HV := ec (Strs.mono hv fun g hg => HZ.out g (by simpa [fo] using hg))
  clear hv
  clear he ho hR hF CR HS Ad Ae H
  go_wp2_with (at_builtin; go_must (refine eO _ rfl _ _ 50 rfl 0 192 iM _ 4 56 Tryz.underlying50 Ak Aj Ai Am rfl (by decide) _ _ _ rfl (Aa.out.1.alloc _) ⟨w2.heap.size, 0, none⟩ 1 [.int .i64 a.coef, .string ⟨a.pred.toArray⟩, av, .int .i64 a.value] rfl rfl (fP rfl) (by intro u hu; simp only [List.mem_cons, List.not_mem_nil, or_false] at hu; rcases hu with rfl | rfl | rfl | rfl <;> first | rfl | exact fB HV.out) (by unfold maxLen; omega) (by omega) (Nat.zero_le _) ?_))
  intro g An w4 Ac hg
  obtain ⟨p1, p2, p3⟩ := fk (a := a) HR.out rfl Aa.out Ab.out (⟨av, rfl, HV.out⟩) rfl Ah.out HC.out (by decide) Al.out Ac hg
  have P1 := ec p1
  have P2 := ec p2
  have P3 := ec ((HF.out.fg _).trans p3)
  clear p1 p2 p3 Ac hg Aa Ab HR HF
  go_wp2_with fail
  go_ret
  exact .of_ok HO.out P1.out P2.out P3.out
theorem sr (readM : M f9) (CR : ∀ s w, Rd R L N s st w → Calls Tryz.prog 252 #[.pointer (some ⟨R, 0, none⟩)] w (Ends R L N st w (oR (fo w)) (readM s)))
    (Z : Nat → Prop) (l : List f9) (tv : Value) (most : Int) (hl : l.length ≤ 70000) (hT : Rows Z 108 11 (cPrem Z) w l tv) (hz : ∀ g, w.heap.size ≤ g → Z g) (hzR : ∀ g, Z g → R < g)
    (h : Rd R L N s st w) (o : Out f9) (ho : gO l.length most readM s = o) :
    Calls Tryz.prog 297 #[.pointer (some ⟨R, 0, none⟩), tv, .int .i64 most, .func (.func 252) #[.pointer (some ⟨R, 0, none⟩)] #[]] w
     (EndsA R L N st w tv.ownBlock (fun w' a v => Rows Z 108 11 (cPrem Z) w' (l ++ [a]) v) o) := by
 obtain ⟨iM, Ak, Aj, Ai, Am⟩ := fY wo
 have HO := ec (io ho)
 have H := ec h
 obtain ⟨xs, Af, Ag⟩ := hT
 have Ad := ec Af
 have Ae := ec Ag
 have HZ := ec hz
 have Al := ec hzR
 have CR := ec CR
 obtain ⟨ta, tc, rfl⟩ := gd Af.1
 have c3 := h.c3
 have f3 := h.frz 3
 have Ao := h.lt
 clear h ho Af Ag hz hzR
 generalize hfl : (s.full || decide (most ≤ (l.length : Int))) = fl at HO
 have HS := ec (H.out.setFull fl)
 cases hsf : s.full with
 | true =>
  rw [hsf] at c3
  have hb : true = fl := by rw [hsf] at hfl; simpa using hfl
  subst hb
  clear hsf hfl
  go_enter Tryz.func297, Tryz.ntmps297
  go_wp2_with fail
  refine (CR.out _ _ HS.out).mono ?_
  intro e w2 he
  rcases he.split with ⟨a, t, v, ho, rfl, hv, hR, hF⟩ | ⟨c, m, ho, rfl, hF⟩
  rotate_left 1
  · exact eg rfl (.of_bad (ho.symm.trans HO.out) (((Fq.refl R w).set 3 _).trans hF))
  have HO := ec (ho.symm.trans HO.out)
  have HR := ec hR
  have HF := ec (((Fq.refl R w).set 3 _).trans hF)
  have Ah : Hid (∀ g, w2.heap.size ≤ g → Z g) := ec fun g hg => HZ.out g (Nat.le_trans HF.out.size hg)
  have Aa := ec (Ad.out.keep (Kp.of_fq (T := [108]) HF.out H.out (by decide)) (by decide))
  have HC : Hid (∀ w w' b ys, Kp [9, 192] Z w w' → (cPrem Z) w b ys → (cPrem Z) w' b ys) := ec (fun _ _ _ _ hk h => h.keep hk (by decide) (by decide))
  have Ab : Hid (∀ i b, l[i]? = some b → (cPrem Z) w2 b ((xs.drop (i * 11)).take 11)) := ec fun i b hi => HC.out _ _ _ _ (Kp.of_fq HF.out H.out (by decide)) (Ae.out i b hi)
  obtain ⟨av, lv, rv, rfl, hv⟩ := hv
  have HV := ec ((⟨Strs.mono hv.1 fun g hg => HZ.out g (by simpa [fo] using hg), Terms.mono hv.2.1 fun g hg => HZ.out g (by simpa [fo] using hg), Terms.mono hv.2.2 fun g hg => HZ.out g (by simpa [fo] using hg)⟩ : Strs Z w2 a.lit.args av ∧ Terms Z w2 a.guard.left lv ∧ Terms Z w2 a.guard.right rv))
  clear hv
  clear he ho hR hF CR HS Ad Ae H
  go_wp2_with (at_builtin; go_must (refine eO _ rfl _ _ 43 rfl 0 108 iM _ 11 160 Tryz.underlying43 Ak Aj Ai Am rfl (by decide) _ _ _ rfl (Aa.out.1.alloc _) ⟨w2.heap.size, 0, none⟩ 1 [.int .i64 a.kind, .bool a.lit.neg, .string ⟨a.lit.pred.toArray⟩, av, .bool a.lit.hasValue, .int .i64 a.lit.value, lv, .int .i64 a.guard.op, rv, .string ⟨a.a.toArray⟩, .string ⟨a.b.toArray⟩] rfl rfl (fP rfl) (by intro u hu; simp only [List.mem_cons, List.not_mem_nil, or_false] at hu; rcases hu with rfl | rfl | rfl | rfl | rfl | rfl | rfl | rfl | rfl | rfl | rfl <;> first | rfl | exact fB HV.out.1 | exact fB HV.out.2.1 | exact fB HV.out.2.2) (by unfold maxLen; omega) (by omega) (Nat.zero_le _) ?_))
  intro g An w4 Ac hg
  obtain ⟨p1, p2, p3⟩ := fk (a := a) HR.out rfl Aa.out Ab.out (⟨av, lv, rv, rfl, HV.out⟩) rfl Ah.out HC.out (by decide) Al.out Ac hg
  have P1 := ec p1
  have P2 := ec p2
  have P3 := ec ((HF.out.fg _).trans p3)
  clear p1 p2 p3 Ac hg Aa Ab HR HF
  go_wp2_with fail
  go_ret
  exact .of_ok HO.out P1.out P2.out P3.out
 | false =>
  rw [hsf] at c3
  have hb : (decide (most ≤ (l.length : Int))) = fl := by rw [hsf] at hfl; simpa using hfl
  clear hsf hfl
  go_enter Tryz.func297, Tryz.ntmps297
  go_wp2_with fail
  refine (CR.out _ _ HS.out).mono ?_
  intro e w2 he
  rcases he.split with ⟨a, t, v, ho, rfl, hv, hR, hF⟩ | ⟨c, m, ho, rfl, hF⟩
  rotate_left 1
  · exact eg rfl (.of_bad (ho.symm.trans HO.out) (((Fq.refl R w).set 3 _).trans hF))
  have HO := ec (ho.symm.trans HO.out)
  have HR := ec hR
  have HF := ec (((Fq.refl R w).set 3 _).trans hF)
  have Ah : Hid (∀ g, w2.heap.size ≤ g → Z g) := ec fun g hg => HZ.out g (Nat.le_trans HF.out.size hg)
  have Aa := ec (Ad.out.keep (Kp.of_fq (T := [108]) HF.out H.out (by decide)) (by decide))
  have HC : Hid (∀ w w' b ys, Kp [9, 192] Z w w' → (cPrem Z) w b ys → (cPrem Z) w' b ys) := ec (fun _ _ _ _ hk h => h.keep hk (by decide) (by decide))
  have Ab : Hid (∀ i b, l[i]? = some b → (cPrem Z) w2 b ((xs.drop (i * 11)).take 11)) := ec fun i b hi => HC.out _ _ _ _ (Kp.of_fq HF.out H.out (by decide)) (Ae.out i b hi)
  obtain ⟨av, lv, rv, rfl, hv⟩ := hv
  have HV := ec ((⟨Strs.mono hv.1 fun g hg => HZ.out g (by simpa [fo] using hg), Terms.mono hv.2.1 fun g hg => HZ.out g (by simpa [fo] using hg), Terms.mono hv.2.2 fun g hg => HZ.out g (by simpa [fo] using hg)⟩ : Strs Z w2 a.lit.args av ∧ Terms Z w2 a.guard.left lv ∧ Terms Z w2 a.guard.right rv))
  clear hv
  clear he ho hR hF CR HS Ad Ae H
  go_wp2_with (at_builtin; go_must (refine eO _ rfl _ _ 43 rfl 0 108 iM _ 11 160 Tryz.underlying43 Ak Aj Ai Am rfl (by decide) _ _ _ rfl (Aa.out.1.alloc _) ⟨w2.heap.size, 0, none⟩ 1 [.int .i64 a.kind, .bool a.lit.neg, .string ⟨a.lit.pred.toArray⟩, av, .bool a.lit.hasValue, .int .i64 a.lit.value, lv, .int .i64 a.guard.op, rv, .string ⟨a.a.toArray⟩, .string ⟨a.b.toArray⟩] rfl rfl (fP rfl) (by intro u hu; simp only [List.mem_cons, List.not_mem_nil, or_false] at hu; rcases hu with rfl | rfl | rfl | rfl | rfl | rfl | rfl | rfl | rfl | rfl | rfl <;> first | rfl | exact fB HV.out.1 | exact fB HV.out.2.1 | exact fB HV.out.2.2) (by unfold maxLen; omega) (by omega) (Nat.zero_le _) ?_))
  intro g An w4 Ac hg
  obtain ⟨p1, p2, p3⟩ := fk (a := a) HR.out rfl Aa.out Ab.out (⟨av, lv, rv, rfl, HV.out⟩) rfl Ah.out HC.out (by decide) Al.out Ac hg
  have P1 := ec p1
  have P2 := ec p2
  have P3 := ec ((HF.out.fg _).trans p3)
  clear p1 p2 p3 Ac hg Aa Ab HR HF
  go_wp2_with fail
  go_ret
  exact .of_ok HO.out P1.out P2.out P3.out
end
end Go.Proofs.YtbpphlmakmeoaaaGreatDoor.Sy
namespace Go.Proofs.YtbpphlmakmeoaaaGreatDoor.Sy
open Go.RowKit
def pn (R : Nat) (w : World) : Nat := match w.cell? ⟨R, 1, none⟩ with
 | some (.int _ n) => n.toNat
 | _ => 0
theorem Rd.nOf_eq {R : Nat} {L : List fw} {N : Nat} {s : RS} {st : St9} {w : World} (h : Rd R L N s st w) : pn R w = s.n := by
 unfold pn
 rw [h.c1]
 simp
theorem Fq.more {R : Nat} {w w1 w2 : World} {row : Option Nat} (h : Fq R w w1) (k : Fg R row w1 w2) (hr : ∀ g, row = some g → w.heap.size ≤ g) : Fq R w w2 :=
 ⟨k.os.trans h.os, k.tape.trans h.tape, k.output.trans h.output, Nat.le_trans h.size k.size, fun i hi hn => (k.block i (Nat.lt_of_lt_of_le hi h.size) hn fun e => by have := hr i e.symm; omega).trans (h.block i hi hn)⟩
theorem fX {α : Type} {k : Nat} {most : Int} {read : M α} {s u : RS} {a : α} (hr : ∀ s a u, read s = .ok a u → s.n < u.n) (h : gO k most read s = .ok a u) : s.n < u.n := hr { s with full := s.full || decide (most ≤ (k : Int)) } a u (io h)
theorem ku {α : Type} {most : Int} {read : M α} {more : M Bool} {f : Nat} {acc : List α} {s : RS} {o : Out (List α)} (h : iN most read more (f + 1) acc s = o) :
    (more >>= fun b => if b = true then gO acc.length most read >>= fun x => iN most read more f (acc ++ [x]) else pure acc) s = o := h
section
variable (R : Nat) (L : List fw) (N : Nat) (s : RS) (st : St9) (w : World)
theorem jn (readM : M ee) (CR : ∀ s w, Rd R L N s st w → Calls Tryz.prog 183 #[.pointer (some ⟨R, 0, none⟩)] w (Ends R L N st w nf (readM s)))
    (moreM : M Bool) (CM : ∀ s w, Rd R L N s st w → Calls Tryz.prog 243 #[.pointer (some ⟨R, 0, none⟩)] w (Ends R L N st w mK (moreM s)))
    (hr : ∀ s a u, readM s = .ok a u → s.n < u.n) (hm : ∀ s u, moreM s = .ok true u → s.n < u.n) (most : Int)
    (h : Rd R L N s st w) (o : Out (List ee)) (ho : iP (kt L) most readM moreM s = o) :
    Calls Tryz.prog 242 #[.pointer (some ⟨R, 0, none⟩), .int .i64 most, .func (.func 183) #[.pointer (some ⟨R, 0, none⟩)] #[], .func (.func 243) #[.pointer (some ⟨R, 0, none⟩)] #[]] w
     (Ends R L N st w (fun w' l v => Rows (fo w) 9 1 cS w' l v) o) := by
 have HO := ec ho
 have Au := ec h.lt
 have An := ec hr
 have As := ec hm
 have CM := ec CM
 have Am : Hid (∀ g, fo w g → R < g) := ec fun g hg => Nat.lt_of_lt_of_le h.lt hg
 have CA := ec (fun s w' => lT R L N s st w' readM CR (fo w))
 have C1 := ec (CA.out s w [] (.slice none 0 0) most (by simp) (Rows.nil _ _ _ _ _) (fun g hg => hg) Am.out h _ rfl)
 have HN := ec (show (kt L).length = L.length by simp [kt])
 clear ho h hr hm CR
 go_enter Tryz.func242, Tryz.ntmps242
 go_wp2_with fail
 refine C1.out.mono ?_
 intro e w1 he
 rcases he.split with ⟨a1, s1, v1, ho, rfl, hv, hR, hF⟩ | ⟨c, m, ho, rfl, hF⟩
 rotate_left 1
 · exact eg rfl (.of_bad (el HO.out ho) hF)
 have Ak := ec (ej HO.out ho)
 have Ah := ec hv
 have Al := ec hR
 have Ai := ec (Fg.fq hF)
 have Ao : Hid (1 ≤ s1.n) := ec (by have := fX An.out ho; omega)
 clear he ho hv hR hF HO C1
 go_wp2_with fail
 go_loopw [9] (fun x wr => ∃ (Aa : List ee) (t : RS) (f : Nat), Hid (Rows (fo w) 9 1 cS wr Aa x) ∧ Hid (Rd R L N t st wr) ∧ Hid (Fq R w wr) ∧ Hid (iN most readM moreM f Aa t = o) ∧ Hid (L.length - t.n < f) ∧ Hid (Aa.length ≤ t.n)) (fun _ wr => L.length - pn R wr)
 case atStart => exact ⟨[a1], s1, (kt L).length + 1, Ah, Al, Ai, Ak, ec (by rw [HN.out]; omega), Ao⟩
 case round =>
  obtain ⟨Aa, t, f, HV, HR, HF, HO, Hf, Hn⟩ := hrel
  clear Ah Al Ai Ak
  obtain ⟨f, rfl⟩ : ∃ g, f = g + 1 := ⟨f - 1, by have := Hf.out; omega⟩
  have HO := ec (ku HO.out)
  go_wp2_with fail
  refine (CM.out _ _ HR.out).mono ?_
  intro e w2 he
  rcases he.split with ⟨b, t2, v2, ho, rfl, hv, hR, hF⟩ | ⟨c, m, ho, rfl, hF⟩
  rotate_left 1
  · exact ⟨rfl, .of_bad (el HO.out ho) (HF.out.trans hF)⟩
  cases hv
  have Aj := ec hR
  have Ad := ec (HF.out.trans hF)
  have HK : Hid (∀ T, 122 ∉ T → Kp T (fo w) _ w2) := ec fun T hT => Kp.of_fq hF HR.out hT
  have Ae := ec (Rows.keep HV.out (HK.out [9] (by decide)) (by decide) (fun _ _ h => h))
  cases b with
  | false =>
   have h2 := ej HO.out ho
   have Ab := ec (fc h2 rfl)
   clear h2
   clear he ho hR hF HO HR HF HV HK
   go_wp2_with fail
   go_ret
   exact .of_ok Ab.out Ae.out Aj.out Ad.out
  | true =>
   have h2 := ej HO.out ho
   have Ab := ec (fs h2 rfl)
   clear h2
   have Ag := ec (As.out _ _ ho)
   have C3 := ec (CA.out t2 w2 Aa _ most (by have := HR.out.nle; have := HR.out.Lle; have := Hn.out; omega) Ae.out (fun g hg => Nat.le_trans Ad.out.size hg) Am.out Aj.out _ rfl)
   have At := ec HR.out.c1
   clear he ho hR hF HO HK
   go_wp2_with fail
   refine C3.out.mono ?_
   intro e w3 he
   rcases he.split with ⟨a3, t3, v3, ho, rfl, hv, hR, hF⟩ | ⟨c, m, ho, rfl, hF⟩
   rotate_left 1
   · exact ⟨rfl, .of_bad (el Ab.out ho) (Ad.out.trans hF)⟩
   have Ap := ec (ej Ab.out ho)
   have Aq := ec hv
   have Ac := ec hR
   have Ar := ec (Ad.out.more hF fun g hg => by obtain ⟨xs, hx, _⟩ := Ae.out; exact hx.2 g hg)
   have Af : Hid (t2.n < t3.n) := ec (fX An.out ho)
   clear he ho hv hR hF Ab C3
   go_wp2_with fail
   go_roundw
   case rel => exact ⟨Aa ++ [a3], t3, f, Aq, Ac, Ar, Ap, ec (by have := Ag.out; have := Af.out; have := Hf.out; have := Ac.out.nle; omega), ec (by have := Ag.out; have := Af.out; have := Hn.out; simp; omega)⟩
   case measure =>
    rw [Ac.out.nOf_eq, HR.out.nOf_eq]
    have := Ag.out; have := Af.out; have := Ac.out.nle
    omega
theorem oS (readM : M ee) (CR : ∀ s w, Rd R L N s st w → Calls Tryz.prog 300 #[.pointer (some ⟨R, 0, none⟩)] w (Ends R L N st w nf (readM s)))
    (moreM : M Bool) (CM : ∀ s w, Rd R L N s st w → Calls Tryz.prog 243 #[.pointer (some ⟨R, 0, none⟩)] w (Ends R L N st w mK (moreM s)))
    (hr : ∀ s a u, readM s = .ok a u → s.n < u.n) (hm : ∀ s u, moreM s = .ok true u → s.n < u.n) (most : Int)
    (h : Rd R L N s st w) (o : Out (List ee)) (ho : iP (kt L) most readM moreM s = o) :
    Calls Tryz.prog 242 #[.pointer (some ⟨R, 0, none⟩), .int .i64 most, .func (.func 300) #[.pointer (some ⟨R, 0, none⟩)] #[], .func (.func 243) #[.pointer (some ⟨R, 0, none⟩)] #[]] w
     (Ends R L N st w (fun w' l v => Rows (fo w) 9 1 cS w' l v) o) := by
 have HO := ec ho
 have Au := ec h.lt
 have An := ec hr
 have As := ec hm
 have CM := ec CM
 have Am : Hid (∀ g, fo w g → R < g) := ec fun g hg => Nat.lt_of_lt_of_le h.lt hg
 have CA := ec (fun s w' => pS R L N s st w' readM CR (fo w))
 have C1 := ec (CA.out s w [] (.slice none 0 0) most (by simp) (Rows.nil _ _ _ _ _) (fun g hg => hg) Am.out h _ rfl)
 have HN := ec (show (kt L).length = L.length by simp [kt])
 clear ho h hr hm CR
 go_enter Tryz.func242, Tryz.ntmps242
 go_wp2_with fail
 refine C1.out.mono ?_
 intro e w1 he
 rcases he.split with ⟨a1, s1, v1, ho, rfl, hv, hR, hF⟩ | ⟨c, m, ho, rfl, hF⟩
 rotate_left 1
 · exact eg rfl (.of_bad (el HO.out ho) hF)
 have Ak := ec (ej HO.out ho)
 have Ah := ec hv
 have Al := ec hR
 have Ai := ec (Fg.fq hF)
 have Ao : Hid (1 ≤ s1.n) := ec (by have := fX An.out ho; omega)
 clear he ho hv hR hF HO C1
 go_wp2_with fail
 go_loopw [9] (fun x wr => ∃ (Aa : List ee) (t : RS) (f : Nat), Hid (Rows (fo w) 9 1 cS wr Aa x) ∧ Hid (Rd R L N t st wr) ∧ Hid (Fq R w wr) ∧ Hid (iN most readM moreM f Aa t = o) ∧ Hid (L.length - t.n < f) ∧ Hid (Aa.length ≤ t.n)) (fun _ wr => L.length - pn R wr)
 case atStart => exact ⟨[a1], s1, (kt L).length + 1, Ah, Al, Ai, Ak, ec (by rw [HN.out]; omega), Ao⟩
 case round =>
  obtain ⟨Aa, t, f, HV, HR, HF, HO, Hf, Hn⟩ := hrel
  clear Ah Al Ai Ak
  obtain ⟨f, rfl⟩ : ∃ g, f = g + 1 := ⟨f - 1, by have := Hf.out; omega⟩
  have HO := ec (ku HO.out)
  go_wp2_with fail
  refine (CM.out _ _ HR.out).mono ?_
  intro e w2 he
  rcases he.split with ⟨b, t2, v2, ho, rfl, hv, hR, hF⟩ | ⟨c, m, ho, rfl, hF⟩
  rotate_left 1
  · exact ⟨rfl, .of_bad (el HO.out ho) (HF.out.trans hF)⟩
  cases hv
  have Aj := ec hR
  have Ad := ec (HF.out.trans hF)
  have HK : Hid (∀ T, 122 ∉ T → Kp T (fo w) _ w2) := ec fun T hT => Kp.of_fq hF HR.out hT
  have Ae := ec (Rows.keep HV.out (HK.out [9] (by decide)) (by decide) (fun _ _ h => h))
  cases b with
  | false =>
   have h2 := ej HO.out ho
   have Ab := ec (fc h2 rfl)
   clear h2
   clear he ho hR hF HO HR HF HV HK
   go_wp2_with fail
   go_ret
   exact .of_ok Ab.out Ae.out Aj.out Ad.out
  | true =>
   have h2 := ej HO.out ho
   have Ab := ec (fs h2 rfl)
   clear h2
   have Ag := ec (As.out _ _ ho)
   have C3 := ec (CA.out t2 w2 Aa _ most (by have := HR.out.nle; have := HR.out.Lle; have := Hn.out; omega) Ae.out (fun g hg => Nat.le_trans Ad.out.size hg) Am.out Aj.out _ rfl)
   have At := ec HR.out.c1
   clear he ho hR hF HO HK
   go_wp2_with fail
   refine C3.out.mono ?_
   intro e w3 he
   rcases he.split with ⟨a3, t3, v3, ho, rfl, hv, hR, hF⟩ | ⟨c, m, ho, rfl, hF⟩
   rotate_left 1
   · exact ⟨rfl, .of_bad (el Ab.out ho) (Ad.out.trans hF)⟩
   have Ap := ec (ej Ab.out ho)
   have Aq := ec hv
   have Ac := ec hR
   have Ar := ec (Ad.out.more hF fun g hg => by obtain ⟨xs, hx, _⟩ := Ae.out; exact hx.2 g hg)
   have Af : Hid (t2.n < t3.n) := ec (fX An.out ho)
   clear he ho hv hR hF Ab C3
   go_wp2_with fail
   go_roundw
   case rel => exact ⟨Aa ++ [a3], t3, f, Aq, Ac, Ar, Ap, ec (by have := Ag.out; have := Af.out; have := Hf.out; have := Ac.out.nle; omega), ec (by have := Ag.out; have := Af.out; have := Hn.out; simp; omega)⟩
   case measure =>
    rw [Ac.out.nOf_eq, HR.out.nOf_eq]
    have := Ag.out; have := Af.out; have := Ac.out.nle
    omega
theorem ov (readM : M Int) (CR : ∀ s w, Rd R L N s st w → Calls Tryz.prog 246 #[.pointer (some ⟨R, 0, none⟩)] w (Ends R L N st w ti (readM s)))
    (moreM : M Bool) (CM : ∀ s w, Rd R L N s st w → Calls Tryz.prog 243 #[.pointer (some ⟨R, 0, none⟩)] w (Ends R L N st w mK (moreM s)))
    (hr : ∀ s a u, readM s = .ok a u → s.n < u.n) (hm : ∀ s u, moreM s = .ok true u → s.n < u.n) (most : Int)
    (h : Rd R L N s st w) (o : Out (List Int)) (ho : iP (kt L) most readM moreM s = o) :
    Calls Tryz.prog 245 #[.pointer (some ⟨R, 0, none⟩), .int .i64 most, .func (.func 246) #[.pointer (some ⟨R, 0, none⟩)] #[], .func (.func 243) #[.pointer (some ⟨R, 0, none⟩)] #[]] w
     (Ends R L N st w (fun w' l v => Rows (fo w) 45 1 cI w' l v) o) := by
 have HO := ec ho
 have Au := ec h.lt
 have An := ec hr
 have As := ec hm
 have CM := ec CM
 have Am : Hid (∀ g, fo w g → R < g) := ec fun g hg => Nat.lt_of_lt_of_le h.lt hg
 have CA := ec (fun s w' => py R L N s st w' readM CR (fo w))
 have C1 := ec (CA.out s w [] (.slice none 0 0) most (by simp) (Rows.nil _ _ _ _ _) (fun g hg => hg) Am.out h _ rfl)
 have HN := ec (show (kt L).length = L.length by simp [kt])
 clear ho h hr hm CR
 go_enter Tryz.func245, Tryz.ntmps245
 go_wp2_with fail
 refine C1.out.mono ?_
 intro e w1 he
 rcases he.split with ⟨a1, s1, v1, ho, rfl, hv, hR, hF⟩ | ⟨c, m, ho, rfl, hF⟩
 rotate_left 1
 · exact eg rfl (.of_bad (el HO.out ho) hF)
 have Ak := ec (ej HO.out ho)
 have Ah := ec hv
 have Al := ec hR
 have Ai := ec (Fg.fq hF)
 have Ao : Hid (1 ≤ s1.n) := ec (by have := fX An.out ho; omega)
 clear he ho hv hR hF HO C1
 go_wp2_with fail
 go_loopw [9] (fun x wr => ∃ (Aa : List Int) (t : RS) (f : Nat), Hid (Rows (fo w) 45 1 cI wr Aa x) ∧ Hid (Rd R L N t st wr) ∧ Hid (Fq R w wr) ∧ Hid (iN most readM moreM f Aa t = o) ∧ Hid (L.length - t.n < f) ∧ Hid (Aa.length ≤ t.n)) (fun _ wr => L.length - pn R wr)
 case atStart => exact ⟨[a1], s1, (kt L).length + 1, Ah, Al, Ai, Ak, ec (by rw [HN.out]; omega), Ao⟩
 case round =>
  obtain ⟨Aa, t, f, HV, HR, HF, HO, Hf, Hn⟩ := hrel
  clear Ah Al Ai Ak
  obtain ⟨f, rfl⟩ : ∃ g, f = g + 1 := ⟨f - 1, by have := Hf.out; omega⟩
  have HO := ec (ku HO.out)
  go_wp2_with fail
  refine (CM.out _ _ HR.out).mono ?_
  intro e w2 he
  rcases he.split with ⟨b, t2, v2, ho, rfl, hv, hR, hF⟩ | ⟨c, m, ho, rfl, hF⟩
  rotate_left 1
  · exact ⟨rfl, .of_bad (el HO.out ho) (HF.out.trans hF)⟩
  cases hv
  have Aj := ec hR
  have Ad := ec (HF.out.trans hF)
  have HK : Hid (∀ T, 122 ∉ T → Kp T (fo w) _ w2) := ec fun T hT => Kp.of_fq hF HR.out hT
  have Ae := ec (Rows.keep HV.out (HK.out [45] (by decide)) (by decide) (fun _ _ h => h))
  cases b with
  | false =>
   have h2 := ej HO.out ho
   have Ab := ec (fc h2 rfl)
   clear h2
   clear he ho hR hF HO HR HF HV HK
   go_wp2_with fail
   go_ret
   exact .of_ok Ab.out Ae.out Aj.out Ad.out
  | true =>
   have h2 := ej HO.out ho
   have Ab := ec (fs h2 rfl)
   clear h2
   have Ag := ec (As.out _ _ ho)
   have C3 := ec (CA.out t2 w2 Aa _ most (by have := HR.out.nle; have := HR.out.Lle; have := Hn.out; omega) Ae.out (fun g hg => Nat.le_trans Ad.out.size hg) Am.out Aj.out _ rfl)
   have At := ec HR.out.c1
   clear he ho hR hF HO HK
   go_wp2_with fail
   refine C3.out.mono ?_
   intro e w3 he
   rcases he.split with ⟨a3, t3, v3, ho, rfl, hv, hR, hF⟩ | ⟨c, m, ho, rfl, hF⟩
   rotate_left 1
   · exact ⟨rfl, .of_bad (el Ab.out ho) (Ad.out.trans hF)⟩
   have Ap := ec (ej Ab.out ho)
   have Aq := ec hv
   have Ac := ec hR
   have Ar := ec (Ad.out.more hF fun g hg => by obtain ⟨xs, hx, _⟩ := Ae.out; exact hx.2 g hg)
   have Af : Hid (t2.n < t3.n) := ec (fX An.out ho)
   clear he ho hv hR hF Ab C3
   go_wp2_with fail
   go_roundw
   case rel => exact ⟨Aa ++ [a3], t3, f, Aq, Ac, Ar, Ap, ec (by have := Ag.out; have := Af.out; have := Hf.out; have := Ac.out.nle; omega), ec (by have := Ag.out; have := Af.out; have := Hn.out; simp; omega)⟩
   case measure =>
    rw [Ac.out.nOf_eq, HR.out.nOf_eq]
    have := Ag.out; have := Af.out; have := Ac.out.nle
    omega
theorem pR (readM : M ft) (CR : ∀ s w, Rd R L N s st w → Calls Tryz.prog 347 #[.pointer (some ⟨R, 0, none⟩)] w (Ends R L N st w (kg (fo w)) (readM s)))
    (moreM : M Bool) (CM : ∀ s w, Rd R L N s st w → Calls Tryz.prog 348 #[.pointer (some ⟨R, 0, none⟩)] w (Ends R L N st w mK (moreM s)))
    (hr : ∀ s a u, readM s = .ok a u → s.n < u.n) (hm : ∀ s u, moreM s = .ok true u → s.n < u.n) (most : Int)
    (h : Rd R L N s st w) (o : Out (List ft)) (ho : iP (kt L) most readM moreM s = o) :
    Calls Tryz.prog 346 #[.pointer (some ⟨R, 0, none⟩), .int .i64 most, .func (.func 347) #[.pointer (some ⟨R, 0, none⟩)] #[], .func (.func 348) #[.pointer (some ⟨R, 0, none⟩)] #[]] w
     (Ends R L N st w (fun w' l v => Rows (fo w) 192 4 (cTerm (fo w)) w' l v) o) := by
 have HO := ec ho
 have Au := ec h.lt
 have An := ec hr
 have As := ec hm
 have CM := ec CM
 have Am : Hid (∀ g, fo w g → R < g) := ec fun g hg => Nat.lt_of_lt_of_le h.lt hg
 have CA := ec (fun s w' => ss R L N s st w' readM CR (fo w))
 have C1 := ec (CA.out s w [] (.slice none 0 0) most (by simp) (Rows.nil _ _ _ _ _) (fun g hg => hg) Am.out h _ rfl)
 have HN := ec (show (kt L).length = L.length by simp [kt])
 clear ho h hr hm CR
 go_enter Tryz.func346, Tryz.ntmps346
 go_wp2_with fail
 refine C1.out.mono ?_
 intro e w1 he
 rcases he.split with ⟨a1, s1, v1, ho, rfl, hv, hR, hF⟩ | ⟨c, m, ho, rfl, hF⟩
 rotate_left 1
 · exact eg rfl (.of_bad (el HO.out ho) hF)
 have Ak := ec (ej HO.out ho)
 have Ah := ec hv
 have Al := ec hR
 have Ai := ec (Fg.fq hF)
 have Ao : Hid (1 ≤ s1.n) := ec (by have := fX An.out ho; omega)
 clear he ho hv hR hF HO C1
 go_wp2_with fail
 go_loopw [9] (fun x wr => ∃ (Aa : List ft) (t : RS) (f : Nat), Hid (Rows (fo w) 192 4 (cTerm (fo w)) wr Aa x) ∧ Hid (Rd R L N t st wr) ∧ Hid (Fq R w wr) ∧ Hid (iN most readM moreM f Aa t = o) ∧ Hid (L.length - t.n < f) ∧ Hid (Aa.length ≤ t.n)) (fun _ wr => L.length - pn R wr)
 case atStart => exact ⟨[a1], s1, (kt L).length + 1, Ah, Al, Ai, Ak, ec (by rw [HN.out]; omega), Ao⟩
 case round =>
  obtain ⟨Aa, t, f, HV, HR, HF, HO, Hf, Hn⟩ := hrel
  clear Ah Al Ai Ak
  obtain ⟨f, rfl⟩ : ∃ g, f = g + 1 := ⟨f - 1, by have := Hf.out; omega⟩
  have HO := ec (ku HO.out)
  go_wp2_with fail
  refine (CM.out _ _ HR.out).mono ?_
  intro e w2 he
  rcases he.split with ⟨b, t2, v2, ho, rfl, hv, hR, hF⟩ | ⟨c, m, ho, rfl, hF⟩
  rotate_left 1
  · exact ⟨rfl, .of_bad (el HO.out ho) (HF.out.trans hF)⟩
  cases hv
  have Aj := ec hR
  have Ad := ec (HF.out.trans hF)
  have HK : Hid (∀ T, 122 ∉ T → Kp T (fo w) _ w2) := ec fun T hT => Kp.of_fq hF HR.out hT
  have Ae := ec (Rows.keep HV.out (HK.out [192, 9] (by decide)) (by decide) (fun _ _ h => h.keep (HK.out [9] (by decide)) (by decide)))
  cases b with
  | false =>
   have h2 := ej HO.out ho
   have Ab := ec (fc h2 rfl)
   clear h2
   clear he ho hR hF HO HR HF HV HK
   go_wp2_with fail
   go_ret
   exact .of_ok Ab.out Ae.out Aj.out Ad.out
  | true =>
   have h2 := ej HO.out ho
   have Ab := ec (fs h2 rfl)
   clear h2
   have Ag := ec (As.out _ _ ho)
   have C3 := ec (CA.out t2 w2 Aa _ most (by have := HR.out.nle; have := HR.out.Lle; have := Hn.out; omega) Ae.out (fun g hg => Nat.le_trans Ad.out.size hg) Am.out Aj.out _ rfl)
   have At := ec HR.out.c1
   clear he ho hR hF HO HK
   go_wp2_with fail
   refine C3.out.mono ?_
   intro e w3 he
   rcases he.split with ⟨a3, t3, v3, ho, rfl, hv, hR, hF⟩ | ⟨c, m, ho, rfl, hF⟩
   rotate_left 1
   · exact ⟨rfl, .of_bad (el Ab.out ho) (Ad.out.trans hF)⟩
   have Ap := ec (ej Ab.out ho)
   have Aq := ec hv
   have Ac := ec hR
   have Ar := ec (Ad.out.more hF fun g hg => by obtain ⟨xs, hx, _⟩ := Ae.out; exact hx.2 g hg)
   have Af : Hid (t2.n < t3.n) := ec (fX An.out ho)
   clear he ho hv hR hF Ab C3
   go_wp2_with fail
   go_roundw
   case rel => exact ⟨Aa ++ [a3], t3, f, Aq, Ac, Ar, Ap, ec (by have := Ag.out; have := Af.out; have := Hf.out; have := Ac.out.nle; omega), ec (by have := Ag.out; have := Af.out; have := Hn.out; simp; omega)⟩
   case measure =>
    rw [Ac.out.nOf_eq, HR.out.nOf_eq]
    have := Ag.out; have := Af.out; have := Ac.out.nle
    omega
theorem ml (readM : M f9) (CR : ∀ s w, Rd R L N s st w → Calls Tryz.prog 252 #[.pointer (some ⟨R, 0, none⟩)] w (Ends R L N st w (oR (fo w)) (readM s)))
    (moreM : M Bool) (CM : ∀ s w, Rd R L N s st w → Calls Tryz.prog 243 #[.pointer (some ⟨R, 0, none⟩)] w (Ends R L N st w mK (moreM s)))
    (hr : ∀ s a u, readM s = .ok a u → s.n < u.n) (hm : ∀ s u, moreM s = .ok true u → s.n < u.n) (most : Int)
    (h : Rd R L N s st w) (o : Out (List f9)) (ho : iP (kt L) most readM moreM s = o) :
    Calls Tryz.prog 251 #[.pointer (some ⟨R, 0, none⟩), .int .i64 most, .func (.func 252) #[.pointer (some ⟨R, 0, none⟩)] #[], .func (.func 243) #[.pointer (some ⟨R, 0, none⟩)] #[]] w
     (Ends R L N st w (fun w' l v => Rows (fo w) 108 11 (cPrem (fo w)) w' l v) o) := by
 have HO := ec ho
 have Au := ec h.lt
 have An := ec hr
 have As := ec hm
 have CM := ec CM
 have Am : Hid (∀ g, fo w g → R < g) := ec fun g hg => Nat.lt_of_lt_of_le h.lt hg
 have CA := ec (fun s w' => sr R L N s st w' readM CR (fo w))
 have C1 := ec (CA.out s w [] (.slice none 0 0) most (by simp) (Rows.nil _ _ _ _ _) (fun g hg => hg) Am.out h _ rfl)
 have HN := ec (show (kt L).length = L.length by simp [kt])
 clear ho h hr hm CR
 go_enter Tryz.func251, Tryz.ntmps251
 go_wp2_with fail
 refine C1.out.mono ?_
 intro e w1 he
 rcases he.split with ⟨a1, s1, v1, ho, rfl, hv, hR, hF⟩ | ⟨c, m, ho, rfl, hF⟩
 rotate_left 1
 · exact eg rfl (.of_bad (el HO.out ho) hF)
 have Ak := ec (ej HO.out ho)
 have Ah := ec hv
 have Al := ec hR
 have Ai := ec (Fg.fq hF)
 have Ao : Hid (1 ≤ s1.n) := ec (by have := fX An.out ho; omega)
 clear he ho hv hR hF HO C1
 go_wp2_with fail
 go_loopw [9] (fun x wr => ∃ (Aa : List f9) (t : RS) (f : Nat), Hid (Rows (fo w) 108 11 (cPrem (fo w)) wr Aa x) ∧ Hid (Rd R L N t st wr) ∧ Hid (Fq R w wr) ∧ Hid (iN most readM moreM f Aa t = o) ∧ Hid (L.length - t.n < f) ∧ Hid (Aa.length ≤ t.n)) (fun _ wr => L.length - pn R wr)
 case atStart => exact ⟨[a1], s1, (kt L).length + 1, Ah, Al, Ai, Ak, ec (by rw [HN.out]; omega), Ao⟩
 case round =>
  obtain ⟨Aa, t, f, HV, HR, HF, HO, Hf, Hn⟩ := hrel
  clear Ah Al Ai Ak
  obtain ⟨f, rfl⟩ : ∃ g, f = g + 1 := ⟨f - 1, by have := Hf.out; omega⟩
  have HO := ec (ku HO.out)
  go_wp2_with fail
  refine (CM.out _ _ HR.out).mono ?_
  intro e w2 he
  rcases he.split with ⟨b, t2, v2, ho, rfl, hv, hR, hF⟩ | ⟨c, m, ho, rfl, hF⟩
  rotate_left 1
  · exact ⟨rfl, .of_bad (el HO.out ho) (HF.out.trans hF)⟩
  cases hv
  have Aj := ec hR
  have Ad := ec (HF.out.trans hF)
  have HK : Hid (∀ T, 122 ∉ T → Kp T (fo w) _ w2) := ec fun T hT => Kp.of_fq hF HR.out hT
  have Ae := ec (Rows.keep HV.out (HK.out [108, 9, 192] (by decide)) (by decide) (fun _ _ h => h.keep (HK.out [9, 192] (by decide)) (by decide) (by decide)))
  cases b with
  | false =>
   have h2 := ej HO.out ho
   have Ab := ec (fc h2 rfl)
   clear h2
   clear he ho hR hF HO HR HF HV HK
   go_wp2_with fail
   go_ret
   exact .of_ok Ab.out Ae.out Aj.out Ad.out
  | true =>
   have h2 := ej HO.out ho
   have Ab := ec (fs h2 rfl)
   clear h2
   have Ag := ec (As.out _ _ ho)
   have C3 := ec (CA.out t2 w2 Aa _ most (by have := HR.out.nle; have := HR.out.Lle; have := Hn.out; omega) Ae.out (fun g hg => Nat.le_trans Ad.out.size hg) Am.out Aj.out _ rfl)
   have At := ec HR.out.c1
   clear he ho hR hF HO HK
   go_wp2_with fail
   refine C3.out.mono ?_
   intro e w3 he
   rcases he.split with ⟨a3, t3, v3, ho, rfl, hv, hR, hF⟩ | ⟨c, m, ho, rfl, hF⟩
   rotate_left 1
   · exact ⟨rfl, .of_bad (el Ab.out ho) (Ad.out.trans hF)⟩
   have Ap := ec (ej Ab.out ho)
   have Aq := ec hv
   have Ac := ec hR
   have Ar := ec (Ad.out.more hF fun g hg => by obtain ⟨xs, hx, _⟩ := Ae.out; exact hx.2 g hg)
   have Af : Hid (t2.n < t3.n) := ec (fX An.out ho)
   clear he ho hv hR hF Ab C3
   go_wp2_with fail
   go_roundw
   case rel => exact ⟨Aa ++ [a3], t3, f, Aq, Ac, Ar, Ap, ec (by have := Ag.out; have := Af.out; have := Hf.out; have := Ac.out.nle; omega), ec (by have := Ag.out; have := Af.out; have := Hn.out; simp; omega)⟩
   case measure =>
    rw [Ac.out.nOf_eq, HR.out.nOf_eq]
    have := Ag.out; have := Af.out; have := Ac.out.nle
    omega
end
end Go.Proofs.YtbpphlmakmeoaaaGreatDoor.Sy
namespace Go.Proofs.YtbpphlmakmeoaaaGreatDoor.Sy
open Go.RowKit
theorem eN {w : World} {q : Nat} {o : Obj} (h : w.heap[q]? = some o) : q < w.heap.size := by
 apply Classical.byContradiction
 intro hn
 rw [Array.getElem?_eq_none (by omega)] at h
 cases h
theorem fN {w : World} {q T i : Nat} {cs : Array Value} {v : Value} (h : w.heap[q]? = some (.cells cs T (0, 0))) : (w.setCell ⟨q, i, none⟩ v).heap[q]? = some (.cells (cs.setIfInBounds i v) T (0, 0)) := heap_setCell_same w q i cs T v h
theorem fD {w : World} {q : Nat} {p : Addr} {o : Obj} {v : Value} (h : w.heap[q]? = some o) (hn : q ≠ p.block) : (w.setCell p v).heap[q]? = some o := (heap_setCell_other w p q v hn).trans h
theorem Fq.loc {R : Nat} {w w' : World} {q : Nat} {o : Obj} (hF : Fq R w w') (h : w.heap[q]? = some o) (hn : q ≠ R) : w'.heap[q]? = some o := (hF.block q (eN h) hn).trans h
theorem Rd.setLoc {R : Nat} {L : List fw} {N : Nat} {s : RS} {st : St9} {w : World} (h : Rd R L N s st w) {q : Nat} (hq : R < q) (i : Nat) (v : Value) : Rd R L N s st (w.setCell ⟨q, i, none⟩ v) :=
 h.keep (by simp) fun k hk => heap_setCell_other w ⟨q, i, none⟩ k v (by show k ≠ q; omega)
theorem Fq.setLoc {R : Nat} {w0 w : World} (h : Fq R w0 w) {q : Nat} (hq : w0.heap.size ≤ q) (i : Nat) (v : Value) : Fq R w0 (w.setCell ⟨q, i, none⟩ v) :=
 ⟨h.os, h.tape, h.output, by simpa using h.size, fun k hk hn => (heap_setCell_other w ⟨q, i, none⟩ k v (by show k ≠ q; omega)).trans (h.block k hk hn)⟩
theorem Kp.setLoc {T : List Nat} {Z : Nat → Prop} {w : World} {q t i : Nat} {cs : Array Value} {v : Value} (h : w.heap[q]? = some (.cells cs t (0, 0))) (ht : t ∉ T) : Kp T Z w (w.setCell ⟨q, i, none⟩ v) := by
 intro g Aa t' _ hg hm
 refine fD hg ?_
 rintro rfl
 rw [h] at hg
 cases hg
 exact ht hm
theorem eK {w w' : World} (hb : Below w.heap.size w w') {q : Nat} {o : Obj} (h : Hid (w.heap[q]? = some o)) : Hid (w'.heap[q]? = some o) := ec ((hb.block _ (eN h.out)).trans h.out)
theorem eH {Z : Nat → Prop} {w : World} {l : List ee} {x : Value} {q t : Nat} {cs : Array Value} (i : Nat) (v : Value) (h : Hid (Strs Z w l x)) (hb : Hid (w.heap[q]? = some (.cells cs t (0, 0)))) (ht : t ∉ [9] := by decide) : Hid (Strs Z (w.setCell ⟨q, i, none⟩ v) l x) :=
 ec (Strs.keep h.out (Kp.setLoc (T := [9]) hb.out ht) (by decide))
theorem eV {Z : Nat → Prop} {w : World} {l : List ft} {x : Value} {q t : Nat} {cs : Array Value} (i : Nat) (v : Value) (h : Hid (Terms Z w l x)) (hb : Hid (w.heap[q]? = some (.cells cs t (0, 0)))) (ht : t ∉ [9, 192] := by decide) : Hid (Terms Z (w.setCell ⟨q, i, none⟩ v) l x) :=
 ec (Terms.keep h.out (Kp.setLoc (T := [9, 192]) hb.out ht) (by decide) (by decide))
theorem ep {w : World} {q t : Nat} {cs : Array Value} (i : Nat) (v : Value) (h : Hid (w.heap[q]? = some (.cells cs t (0, 0)))) : Hid ((w.setCell ⟨q, i, none⟩ v).heap[q]? = some (.cells (cs.setIfInBounds i v) t (0, 0))) := ec (fN h.out)
theorem ew {w : World} {q : Nat} {o : Obj} (W : World) (i : Nat) (v : Value) (h : Hid (w.heap[q]? = some o)) (hn : Hid (q ≠ W.heap.size)) : Hid ((w.setCell ⟨W.heap.size, i, none⟩ v).heap[q]? = some o) := ec (fD h.out hn.out)
theorem eW {R : Nat} {w w' : World} {q : Nat} {o : Obj} (hF : Fq R w w') (h : Hid (w.heap[q]? = some o)) (hn : Hid (R < q)) : Hid (w'.heap[q]? = some o) := ec (hF.loc h.out (Nat.ne_of_gt hn.out))
theorem eo {R : Nat} {L : List fw} {N : Nat} {s : RS} {st : St9} {w : World} {q : Nat} (h : Hid (Rd R L N s st w)) (hq : Hid (R < q)) (i : Nat) (v : Value) : Hid (Rd R L N s st (w.setCell ⟨q, i, none⟩ v)) := ec (h.out.setLoc hq.out i v)
theorem em {R : Nat} {w0 w : World} {q : Nat} (h : Hid (Fq R w0 w)) (hq : Hid (w0.heap.size ≤ q)) (i : Nat) (v : Value) : Hid (Fq R w0 (w.setCell ⟨q, i, none⟩ v)) := ec (h.out.setLoc hq.out i v)
theorem ed {α : Type} {Z : Nat → Prop} {e k : Nat} {c : World → α → List Value → Prop} {w : World} {l : List α} {v : Value} (h : Rows Z e k c w l v) : ∃ a c, v = .slice a l.length c := by
 obtain ⟨xs, h1, _⟩ := h
 exact gd h1.1
section
variable {w : World} {q T : Nat} {a0 a1 a2 a3 a4 a5 a6 a7 a8 a9 a10 : Value}
theorem oH (h : w.heap[q]? = some (.cells #[a0, a1] T (0, 0))) : w.cell? ⟨q, 0, none⟩ = some a0 ∧ w.cell? ⟨q, 1, none⟩ = some a1 ∧ ∀ i, w.frozen? ⟨q, i, none⟩ = false :=
 ⟨cell_of_row w q 0 _ T _ h, cell_of_row w q 1 _ T _ h, fun i => frozen_of_row w q i _ T h⟩
theorem fj (h : w.heap[q]? = some (.cells #[a0, a1, a2] T (0, 0))) : w.cell? ⟨q, 0, none⟩ = some a0 ∧ w.cell? ⟨q, 1, none⟩ = some a1 ∧ w.cell? ⟨q, 2, none⟩ = some a2 ∧ ∀ i, w.frozen? ⟨q, i, none⟩ = false :=
 ⟨cell_of_row w q 0 _ T _ h, cell_of_row w q 1 _ T _ h, cell_of_row w q 2 _ T _ h, fun i => frozen_of_row w q i _ T h⟩
theorem fy (h : w.heap[q]? = some (.cells #[a0, a1, a2, a3] T (0, 0))) : w.cell? ⟨q, 0, none⟩ = some a0 ∧ w.cell? ⟨q, 1, none⟩ = some a1 ∧ w.cell? ⟨q, 2, none⟩ = some a2 ∧ w.cell? ⟨q, 3, none⟩ = some a3 ∧ ∀ i, w.frozen? ⟨q, i, none⟩ = false :=
 ⟨cell_of_row w q 0 _ T _ h, cell_of_row w q 1 _ T _ h, cell_of_row w q 2 _ T _ h, cell_of_row w q 3 _ T _ h, fun i => frozen_of_row w q i _ T h⟩
theorem gN (h : w.heap[q]? = some (.cells #[a0, a1, a2, a3, a4] T (0, 0))) : w.cell? ⟨q, 0, none⟩ = some a0 ∧ w.cell? ⟨q, 1, none⟩ = some a1 ∧ w.cell? ⟨q, 2, none⟩ = some a2 ∧ w.cell? ⟨q, 3, none⟩ = some a3 ∧ w.cell? ⟨q, 4, none⟩ = some a4 ∧ ∀ i, w.frozen? ⟨q, i, none⟩ = false :=
 ⟨cell_of_row w q 0 _ T _ h, cell_of_row w q 1 _ T _ h, cell_of_row w q 2 _ T _ h, cell_of_row w q 3 _ T _ h, cell_of_row w q 4 _ T _ h, fun i => frozen_of_row w q i _ T h⟩
theorem eF (h : w.heap[q]? = some (.cells #[a0, a1, a2, a3, a4, a5, a6, a7, a8, a9, a10] T (0, 0))) : w.cell? ⟨q, 0, none⟩ = some a0 ∧ w.cell? ⟨q, 1, none⟩ = some a1 ∧ w.cell? ⟨q, 2, none⟩ = some a2 ∧ w.cell? ⟨q, 3, none⟩ = some a3 ∧ w.cell? ⟨q, 4, none⟩ = some a4 ∧
    w.cell? ⟨q, 5, none⟩ = some a5 ∧ w.cell? ⟨q, 6, none⟩ = some a6 ∧ w.cell? ⟨q, 7, none⟩ = some a7 ∧ w.cell? ⟨q, 8, none⟩ = some a8 ∧ w.cell? ⟨q, 9, none⟩ = some a9 ∧ w.cell? ⟨q, 10, none⟩ = some a10 ∧ ∀ i, w.frozen? ⟨q, i, none⟩ = false :=
 ⟨cell_of_row w q 0 _ T _ h, cell_of_row w q 1 _ T _ h, cell_of_row w q 2 _ T _ h, cell_of_row w q 3 _ T _ h, cell_of_row w q 4 _ T _ h, cell_of_row w q 5 _ T _ h, cell_of_row w q 6 _ T _ h, cell_of_row w q 7 _ T _ h, cell_of_row w q 8 _ T _ h, cell_of_row w q 9 _ T _ h, cell_of_row w q 10 _ T _ h, fun i => frozen_of_row w q i _ T h⟩
end
end Go.Proofs.YtbpphlmakmeoaaaGreatDoor.Sy
namespace Go.Proofs.YtbpphlmakmeoaaaGreatDoor.Sy
open Go.RowKit
theorem nw : (Tryz.prog.info? 128).map (fun i => (i.zero, i.size, i.bytes)) = some (some (.agg #[.string ⟨#[]⟩, .int .i64 0, .slice none 0 0, .slice none 0 0]), 4, 72) := by kernel_rfl
theorem vF : (Tryz.prog.info? 22).map (fun i => (i.zero, i.size, i.bytes)) = some (some (.slice none 0 0), 1, 24) := by kernel_rfl
theorem tQ : (Tryz.prog.info? 131).map (fun i => (i.zero, i.size, i.bytes)) = some (some (.agg #[.string ⟨#[]⟩, .int .i64 0]), 2, 24) := by kernel_rfl
theorem ul : (Tryz.prog.info? 133).map (fun i => (i.zero, i.size, i.bytes)) = some (some (.agg #[.string ⟨#[]⟩, .string ⟨#[]⟩]), 2, 32) := by kernel_rfl
theorem wH : (Tryz.prog.info? 49).map (fun i => (i.zero, i.size, i.bytes)) = some (some (.agg #[.string ⟨#[]⟩, .string ⟨#[]⟩, .int .i64 0, .int .i64 0, .slice none 0 0, .int .i64 0, .bool false, .string ⟨#[]⟩, .slice none 0 0, .bool false, .int .i64 0]), 11, 144) := by kernel_rfl
theorem uY : (Tryz.prog.info? 135).map (fun i => (i.zero, i.size, i.bytes)) = some (some (.agg #[.string ⟨#[]⟩, .string ⟨#[]⟩, .slice none 0 0, .bool false, .int .i64 0]), 5, 72) := by kernel_rfl
section
variable (R : Nat) (L : List fw) (N : Nat) (s : RS) (st : St9) (w : World)
theorem rg (readM : M fZ) (CR : ∀ s w, Rd R L N s st w → Calls Tryz.prog 186 #[.pointer (some ⟨R, 0, none⟩)] w (Ends R L N st w (lP (fo w)) (readM s)))
    (Z : Nat → Prop) (l : List fZ) (tv : Value) (most : Int) (hl : l.length ≤ 70000) (hT : Rows Z 128 4 (cPred Z) w l tv) (hz : ∀ g, w.heap.size ≤ g → Z g) (hzR : ∀ g, Z g → R < g)
    (h : Rd R L N s st w) (o : Out fZ) (ho : gO l.length most readM s = o) :
    Calls Tryz.prog 185 #[.pointer (some ⟨R, 0, none⟩), tv, .int .i64 most, .func (.func 186) #[.pointer (some ⟨R, 0, none⟩)] #[]] w
     (EndsA R L N st w tv.ownBlock (fun w' a v => Rows Z 128 4 (cPred Z) w' (l ++ [a]) v) o) := by
 obtain ⟨iM, Ak, Aj, Ai, Am⟩ := fY nw
 have HO := ec (io ho)
 have H := ec h
 obtain ⟨xs, Af, Ag⟩ := hT
 have Ad := ec Af
 have Ae := ec Ag
 have HZ := ec hz
 have Al := ec hzR
 have CR := ec CR
 obtain ⟨ta, tc, rfl⟩ := gd Af.1
 have c3 := h.c3
 have f3 := h.frz 3
 have Ao := h.lt
 clear h ho Af Ag hz hzR
 generalize hfl : (s.full || decide (most ≤ (l.length : Int))) = fl at HO
 have HS := ec (H.out.setFull fl)
 cases hsf : s.full with
 | true =>
  rw [hsf] at c3
  have hb : true = fl := by rw [hsf] at hfl; simpa using hfl
  subst hb
  clear hsf hfl
  go_enter Tryz.func185, Tryz.ntmps185
  go_wp2_with fail
  refine (CR.out _ _ HS.out).mono ?_
  intro e w2 he
  rcases he.split with ⟨a, t, v, ho, rfl, hv, hR, hF⟩ | ⟨c, m, ho, rfl, hF⟩
  rotate_left 1
  · exact eg rfl (.of_bad (ho.symm.trans HO.out) (((Fq.refl R w).set 3 _).trans hF))
  have HO := ec (ho.symm.trans HO.out)
  have HR := ec hR
  have HF := ec (((Fq.refl R w).set 3 _).trans hF)
  have Ah : Hid (∀ g, w2.heap.size ≤ g → Z g) := ec fun g hg => HZ.out g (Nat.le_trans HF.out.size hg)
  have Aa := ec (Ad.out.keep (Kp.of_fq (T := [128]) HF.out H.out (by decide)) (by decide))
  have HC : Hid (∀ w w' b ys, Kp ei Z w w' → (cPred Z) w b ys → (cPred Z) w' b ys) := ec (fun _ _ _ _ hk h => h.keep hk)
  have Ab : Hid (∀ i b, l[i]? = some b → (cPred Z) w2 b ((xs.drop (i * 4)).take 4)) := ec fun i b hi => HC.out _ _ _ _ (Kp.of_fq HF.out H.out (by decide)) (Ae.out i b hi)
  obtain ⟨kv, vv, rfl, hv⟩ := hv
  have HV := ec ((⟨Strs.mono hv.1 fun g hg => HZ.out g (by simpa [fo] using hg), Moneys.mono hv.2 fun g hg => HZ.out g (by simpa [fo] using hg)⟩ : Strs Z w2 a.kinds kv ∧ Moneys Z w2 a.values vv))
  clear hv
  clear he ho hR hF CR HS Ad Ae H
  go_wp2_with (at_builtin; go_must (refine eO _ rfl _ _ 24 rfl 0 128 iM _ 4 72 Tryz.underlying24 Ak Aj Ai Am rfl (by decide) _ _ _ rfl (Aa.out.1.alloc _) ⟨w2.heap.size, 0, none⟩ 1 [.string ⟨a.name.toArray⟩, .int .i64 a.sort, kv, vv] rfl rfl (fP rfl) (by intro u hu; simp only [List.mem_cons, List.not_mem_nil, or_false] at hu; rcases hu with rfl | rfl | rfl | rfl <;> first | rfl | exact fB HV.out.1 | exact fB HV.out.2) (by unfold maxLen; omega) (by omega) (Nat.zero_le _) ?_))
  intro g An w4 Ac hg
  obtain ⟨p1, p2, p3⟩ := fk (a := a) HR.out rfl Aa.out Ab.out (⟨kv, vv, rfl, HV.out⟩) rfl Ah.out HC.out (by decide) Al.out Ac hg
  have P1 := ec p1
  have P2 := ec p2
  have P3 := ec ((HF.out.fg _).trans p3)
  clear p1 p2 p3 Ac hg Aa Ab HR HF
  go_wp2_with fail
  go_ret
  exact .of_ok HO.out P1.out P2.out P3.out
 | false =>
  rw [hsf] at c3
  have hb : (decide (most ≤ (l.length : Int))) = fl := by rw [hsf] at hfl; simpa using hfl
  clear hsf hfl
  go_enter Tryz.func185, Tryz.ntmps185
  go_wp2_with fail
  refine (CR.out _ _ HS.out).mono ?_
  intro e w2 he
  rcases he.split with ⟨a, t, v, ho, rfl, hv, hR, hF⟩ | ⟨c, m, ho, rfl, hF⟩
  rotate_left 1
  · exact eg rfl (.of_bad (ho.symm.trans HO.out) (((Fq.refl R w).set 3 _).trans hF))
  have HO := ec (ho.symm.trans HO.out)
  have HR := ec hR
  have HF := ec (((Fq.refl R w).set 3 _).trans hF)
  have Ah : Hid (∀ g, w2.heap.size ≤ g → Z g) := ec fun g hg => HZ.out g (Nat.le_trans HF.out.size hg)
  have Aa := ec (Ad.out.keep (Kp.of_fq (T := [128]) HF.out H.out (by decide)) (by decide))
  have HC : Hid (∀ w w' b ys, Kp ei Z w w' → (cPred Z) w b ys → (cPred Z) w' b ys) := ec (fun _ _ _ _ hk h => h.keep hk)
  have Ab : Hid (∀ i b, l[i]? = some b → (cPred Z) w2 b ((xs.drop (i * 4)).take 4)) := ec fun i b hi => HC.out _ _ _ _ (Kp.of_fq HF.out H.out (by decide)) (Ae.out i b hi)
  obtain ⟨kv, vv, rfl, hv⟩ := hv
  have HV := ec ((⟨Strs.mono hv.1 fun g hg => HZ.out g (by simpa [fo] using hg), Moneys.mono hv.2 fun g hg => HZ.out g (by simpa [fo] using hg)⟩ : Strs Z w2 a.kinds kv ∧ Moneys Z w2 a.values vv))
  clear hv
  clear he ho hR hF CR HS Ad Ae H
  go_wp2_with (at_builtin; go_must (refine eO _ rfl _ _ 24 rfl 0 128 iM _ 4 72 Tryz.underlying24 Ak Aj Ai Am rfl (by decide) _ _ _ rfl (Aa.out.1.alloc _) ⟨w2.heap.size, 0, none⟩ 1 [.string ⟨a.name.toArray⟩, .int .i64 a.sort, kv, vv] rfl rfl (fP rfl) (by intro u hu; simp only [List.mem_cons, List.not_mem_nil, or_false] at hu; rcases hu with rfl | rfl | rfl | rfl <;> first | rfl | exact fB HV.out.1 | exact fB HV.out.2) (by unfold maxLen; omega) (by omega) (Nat.zero_le _) ?_))
  intro g An w4 Ac hg
  obtain ⟨p1, p2, p3⟩ := fk (a := a) HR.out rfl Aa.out Ab.out (⟨kv, vv, rfl, HV.out⟩) rfl Ah.out HC.out (by decide) Al.out Ac hg
  have P1 := ec p1
  have P2 := ec p2
  have P3 := ec ((HF.out.fg _).trans p3)
  clear p1 p2 p3 Ac hg Aa Ab HR HF
  go_wp2_with fail
  go_ret
  exact .of_ok HO.out P1.out P2.out P3.out
theorem pE (readM : M fZ) (CR : ∀ s w, Rd R L N s st w → Calls Tryz.prog 187 #[.pointer (some ⟨R, 0, none⟩)] w (Ends R L N st w (lP (fo w)) (readM s)))
    (Z : Nat → Prop) (l : List fZ) (tv : Value) (most : Int) (hl : l.length ≤ 70000) (hT : Rows Z 128 4 (cPred Z) w l tv) (hz : ∀ g, w.heap.size ≤ g → Z g) (hzR : ∀ g, Z g → R < g)
    (h : Rd R L N s st w) (o : Out fZ) (ho : gO l.length most readM s = o) :
    Calls Tryz.prog 185 #[.pointer (some ⟨R, 0, none⟩), tv, .int .i64 most, .func (.func 187) #[.pointer (some ⟨R, 0, none⟩)] #[]] w
     (EndsA R L N st w tv.ownBlock (fun w' a v => Rows Z 128 4 (cPred Z) w' (l ++ [a]) v) o) := by
 obtain ⟨iM, Ak, Aj, Ai, Am⟩ := fY nw
 have HO := ec (io ho)
 have H := ec h
 obtain ⟨xs, Af, Ag⟩ := hT
 have Ad := ec Af
 have Ae := ec Ag
 have HZ := ec hz
 have Al := ec hzR
 have CR := ec CR
 obtain ⟨ta, tc, rfl⟩ := gd Af.1
 have c3 := h.c3
 have f3 := h.frz 3
 have Ao := h.lt
 clear h ho Af Ag hz hzR
 generalize hfl : (s.full || decide (most ≤ (l.length : Int))) = fl at HO
 have HS := ec (H.out.setFull fl)
 cases hsf : s.full with
 | true =>
  rw [hsf] at c3
  have hb : true = fl := by rw [hsf] at hfl; simpa using hfl
  subst hb
  clear hsf hfl
  go_enter Tryz.func185, Tryz.ntmps185
  go_wp2_with fail
  refine (CR.out _ _ HS.out).mono ?_
  intro e w2 he
  rcases he.split with ⟨a, t, v, ho, rfl, hv, hR, hF⟩ | ⟨c, m, ho, rfl, hF⟩
  rotate_left 1
  · exact eg rfl (.of_bad (ho.symm.trans HO.out) (((Fq.refl R w).set 3 _).trans hF))
  have HO := ec (ho.symm.trans HO.out)
  have HR := ec hR
  have HF := ec (((Fq.refl R w).set 3 _).trans hF)
  have Ah : Hid (∀ g, w2.heap.size ≤ g → Z g) := ec fun g hg => HZ.out g (Nat.le_trans HF.out.size hg)
  have Aa := ec (Ad.out.keep (Kp.of_fq (T := [128]) HF.out H.out (by decide)) (by decide))
  have HC : Hid (∀ w w' b ys, Kp ei Z w w' → (cPred Z) w b ys → (cPred Z) w' b ys) := ec (fun _ _ _ _ hk h => h.keep hk)
  have Ab : Hid (∀ i b, l[i]? = some b → (cPred Z) w2 b ((xs.drop (i * 4)).take 4)) := ec fun i b hi => HC.out _ _ _ _ (Kp.of_fq HF.out H.out (by decide)) (Ae.out i b hi)
  obtain ⟨kv, vv, rfl, hv⟩ := hv
  have HV := ec ((⟨Strs.mono hv.1 fun g hg => HZ.out g (by simpa [fo] using hg), Moneys.mono hv.2 fun g hg => HZ.out g (by simpa [fo] using hg)⟩ : Strs Z w2 a.kinds kv ∧ Moneys Z w2 a.values vv))
  clear hv
  clear he ho hR hF CR HS Ad Ae H
  go_wp2_with (at_builtin; go_must (refine eO _ rfl _ _ 24 rfl 0 128 iM _ 4 72 Tryz.underlying24 Ak Aj Ai Am rfl (by decide) _ _ _ rfl (Aa.out.1.alloc _) ⟨w2.heap.size, 0, none⟩ 1 [.string ⟨a.name.toArray⟩, .int .i64 a.sort, kv, vv] rfl rfl (fP rfl) (by intro u hu; simp only [List.mem_cons, List.not_mem_nil, or_false] at hu; rcases hu with rfl | rfl | rfl | rfl <;> first | rfl | exact fB HV.out.1 | exact fB HV.out.2) (by unfold maxLen; omega) (by omega) (Nat.zero_le _) ?_))
  intro g An w4 Ac hg
  obtain ⟨p1, p2, p3⟩ := fk (a := a) HR.out rfl Aa.out Ab.out (⟨kv, vv, rfl, HV.out⟩) rfl Ah.out HC.out (by decide) Al.out Ac hg
  have P1 := ec p1
  have P2 := ec p2
  have P3 := ec ((HF.out.fg _).trans p3)
  clear p1 p2 p3 Ac hg Aa Ab HR HF
  go_wp2_with fail
  go_ret
  exact .of_ok HO.out P1.out P2.out P3.out
 | false =>
  rw [hsf] at c3
  have hb : (decide (most ≤ (l.length : Int))) = fl := by rw [hsf] at hfl; simpa using hfl
  clear hsf hfl
  go_enter Tryz.func185, Tryz.ntmps185
  go_wp2_with fail
  refine (CR.out _ _ HS.out).mono ?_
  intro e w2 he
  rcases he.split with ⟨a, t, v, ho, rfl, hv, hR, hF⟩ | ⟨c, m, ho, rfl, hF⟩
  rotate_left 1
  · exact eg rfl (.of_bad (ho.symm.trans HO.out) (((Fq.refl R w).set 3 _).trans hF))
  have HO := ec (ho.symm.trans HO.out)
  have HR := ec hR
  have HF := ec (((Fq.refl R w).set 3 _).trans hF)
  have Ah : Hid (∀ g, w2.heap.size ≤ g → Z g) := ec fun g hg => HZ.out g (Nat.le_trans HF.out.size hg)
  have Aa := ec (Ad.out.keep (Kp.of_fq (T := [128]) HF.out H.out (by decide)) (by decide))
  have HC : Hid (∀ w w' b ys, Kp ei Z w w' → (cPred Z) w b ys → (cPred Z) w' b ys) := ec (fun _ _ _ _ hk h => h.keep hk)
  have Ab : Hid (∀ i b, l[i]? = some b → (cPred Z) w2 b ((xs.drop (i * 4)).take 4)) := ec fun i b hi => HC.out _ _ _ _ (Kp.of_fq HF.out H.out (by decide)) (Ae.out i b hi)
  obtain ⟨kv, vv, rfl, hv⟩ := hv
  have HV := ec ((⟨Strs.mono hv.1 fun g hg => HZ.out g (by simpa [fo] using hg), Moneys.mono hv.2 fun g hg => HZ.out g (by simpa [fo] using hg)⟩ : Strs Z w2 a.kinds kv ∧ Moneys Z w2 a.values vv))
  clear hv
  clear he ho hR hF CR HS Ad Ae H
  go_wp2_with (at_builtin; go_must (refine eO _ rfl _ _ 24 rfl 0 128 iM _ 4 72 Tryz.underlying24 Ak Aj Ai Am rfl (by decide) _ _ _ rfl (Aa.out.1.alloc _) ⟨w2.heap.size, 0, none⟩ 1 [.string ⟨a.name.toArray⟩, .int .i64 a.sort, kv, vv] rfl rfl (fP rfl) (by intro u hu; simp only [List.mem_cons, List.not_mem_nil, or_false] at hu; rcases hu with rfl | rfl | rfl | rfl <;> first | rfl | exact fB HV.out.1 | exact fB HV.out.2) (by unfold maxLen; omega) (by omega) (Nat.zero_le _) ?_))
  intro g An w4 Ac hg
  obtain ⟨p1, p2, p3⟩ := fk (a := a) HR.out rfl Aa.out Ab.out (⟨kv, vv, rfl, HV.out⟩) rfl Ah.out HC.out (by decide) Al.out Ac hg
  have P1 := ec p1
  have P2 := ec p2
  have P3 := ec ((HF.out.fg _).trans p3)
  clear p1 p2 p3 Ac hg Aa Ab HR HF
  go_wp2_with fail
  go_ret
  exact .of_ok HO.out P1.out P2.out P3.out
theorem pz (readM : M fZ) (CR : ∀ s w, Rd R L N s st w → Calls Tryz.prog 188 #[.pointer (some ⟨R, 0, none⟩)] w (Ends R L N st w (lP (fo w)) (readM s)))
    (Z : Nat → Prop) (l : List fZ) (tv : Value) (most : Int) (hl : l.length ≤ 70000) (hT : Rows Z 128 4 (cPred Z) w l tv) (hz : ∀ g, w.heap.size ≤ g → Z g) (hzR : ∀ g, Z g → R < g)
    (h : Rd R L N s st w) (o : Out fZ) (ho : gO l.length most readM s = o) :
    Calls Tryz.prog 185 #[.pointer (some ⟨R, 0, none⟩), tv, .int .i64 most, .func (.func 188) #[.pointer (some ⟨R, 0, none⟩)] #[]] w
     (EndsA R L N st w tv.ownBlock (fun w' a v => Rows Z 128 4 (cPred Z) w' (l ++ [a]) v) o) := by
 obtain ⟨iM, Ak, Aj, Ai, Am⟩ := fY nw
 have HO := ec (io ho)
 have H := ec h
 obtain ⟨xs, Af, Ag⟩ := hT
 have Ad := ec Af
 have Ae := ec Ag
 have HZ := ec hz
 have Al := ec hzR
 have CR := ec CR
 obtain ⟨ta, tc, rfl⟩ := gd Af.1
 have c3 := h.c3
 have f3 := h.frz 3
 have Ao := h.lt
 clear h ho Af Ag hz hzR
 generalize hfl : (s.full || decide (most ≤ (l.length : Int))) = fl at HO
 have HS := ec (H.out.setFull fl)
 cases hsf : s.full with
 | true =>
  rw [hsf] at c3
  have hb : true = fl := by rw [hsf] at hfl; simpa using hfl
  subst hb
  clear hsf hfl
  go_enter Tryz.func185, Tryz.ntmps185
  go_wp2_with fail
  refine (CR.out _ _ HS.out).mono ?_
  intro e w2 he
  rcases he.split with ⟨a, t, v, ho, rfl, hv, hR, hF⟩ | ⟨c, m, ho, rfl, hF⟩
  rotate_left 1
  · exact eg rfl (.of_bad (ho.symm.trans HO.out) (((Fq.refl R w).set 3 _).trans hF))
  have HO := ec (ho.symm.trans HO.out)
  have HR := ec hR
  have HF := ec (((Fq.refl R w).set 3 _).trans hF)
  have Ah : Hid (∀ g, w2.heap.size ≤ g → Z g) := ec fun g hg => HZ.out g (Nat.le_trans HF.out.size hg)
  have Aa := ec (Ad.out.keep (Kp.of_fq (T := [128]) HF.out H.out (by decide)) (by decide))
  have HC : Hid (∀ w w' b ys, Kp ei Z w w' → (cPred Z) w b ys → (cPred Z) w' b ys) := ec (fun _ _ _ _ hk h => h.keep hk)
  have Ab : Hid (∀ i b, l[i]? = some b → (cPred Z) w2 b ((xs.drop (i * 4)).take 4)) := ec fun i b hi => HC.out _ _ _ _ (Kp.of_fq HF.out H.out (by decide)) (Ae.out i b hi)
  obtain ⟨kv, vv, rfl, hv⟩ := hv
  have HV := ec ((⟨Strs.mono hv.1 fun g hg => HZ.out g (by simpa [fo] using hg), Moneys.mono hv.2 fun g hg => HZ.out g (by simpa [fo] using hg)⟩ : Strs Z w2 a.kinds kv ∧ Moneys Z w2 a.values vv))
  clear hv
  clear he ho hR hF CR HS Ad Ae H
  go_wp2_with (at_builtin; go_must (refine eO _ rfl _ _ 24 rfl 0 128 iM _ 4 72 Tryz.underlying24 Ak Aj Ai Am rfl (by decide) _ _ _ rfl (Aa.out.1.alloc _) ⟨w2.heap.size, 0, none⟩ 1 [.string ⟨a.name.toArray⟩, .int .i64 a.sort, kv, vv] rfl rfl (fP rfl) (by intro u hu; simp only [List.mem_cons, List.not_mem_nil, or_false] at hu; rcases hu with rfl | rfl | rfl | rfl <;> first | rfl | exact fB HV.out.1 | exact fB HV.out.2) (by unfold maxLen; omega) (by omega) (Nat.zero_le _) ?_))
  intro g An w4 Ac hg
  obtain ⟨p1, p2, p3⟩ := fk (a := a) HR.out rfl Aa.out Ab.out (⟨kv, vv, rfl, HV.out⟩) rfl Ah.out HC.out (by decide) Al.out Ac hg
  have P1 := ec p1
  have P2 := ec p2
  have P3 := ec ((HF.out.fg _).trans p3)
  clear p1 p2 p3 Ac hg Aa Ab HR HF
  go_wp2_with fail
  go_ret
  exact .of_ok HO.out P1.out P2.out P3.out
 | false =>
  rw [hsf] at c3
  have hb : (decide (most ≤ (l.length : Int))) = fl := by rw [hsf] at hfl; simpa using hfl
  clear hsf hfl
  go_enter Tryz.func185, Tryz.ntmps185
  go_wp2_with fail
  refine (CR.out _ _ HS.out).mono ?_
  intro e w2 he
  rcases he.split with ⟨a, t, v, ho, rfl, hv, hR, hF⟩ | ⟨c, m, ho, rfl, hF⟩
  rotate_left 1
  · exact eg rfl (.of_bad (ho.symm.trans HO.out) (((Fq.refl R w).set 3 _).trans hF))
  have HO := ec (ho.symm.trans HO.out)
  have HR := ec hR
  have HF := ec (((Fq.refl R w).set 3 _).trans hF)
  have Ah : Hid (∀ g, w2.heap.size ≤ g → Z g) := ec fun g hg => HZ.out g (Nat.le_trans HF.out.size hg)
  have Aa := ec (Ad.out.keep (Kp.of_fq (T := [128]) HF.out H.out (by decide)) (by decide))
  have HC : Hid (∀ w w' b ys, Kp ei Z w w' → (cPred Z) w b ys → (cPred Z) w' b ys) := ec (fun _ _ _ _ hk h => h.keep hk)
  have Ab : Hid (∀ i b, l[i]? = some b → (cPred Z) w2 b ((xs.drop (i * 4)).take 4)) := ec fun i b hi => HC.out _ _ _ _ (Kp.of_fq HF.out H.out (by decide)) (Ae.out i b hi)
  obtain ⟨kv, vv, rfl, hv⟩ := hv
  have HV := ec ((⟨Strs.mono hv.1 fun g hg => HZ.out g (by simpa [fo] using hg), Moneys.mono hv.2 fun g hg => HZ.out g (by simpa [fo] using hg)⟩ : Strs Z w2 a.kinds kv ∧ Moneys Z w2 a.values vv))
  clear hv
  clear he ho hR hF CR HS Ad Ae H
  go_wp2_with (at_builtin; go_must (refine eO _ rfl _ _ 24 rfl 0 128 iM _ 4 72 Tryz.underlying24 Ak Aj Ai Am rfl (by decide) _ _ _ rfl (Aa.out.1.alloc _) ⟨w2.heap.size, 0, none⟩ 1 [.string ⟨a.name.toArray⟩, .int .i64 a.sort, kv, vv] rfl rfl (fP rfl) (by intro u hu; simp only [List.mem_cons, List.not_mem_nil, or_false] at hu; rcases hu with rfl | rfl | rfl | rfl <;> first | rfl | exact fB HV.out.1 | exact fB HV.out.2) (by unfold maxLen; omega) (by omega) (Nat.zero_le _) ?_))
  intro g An w4 Ac hg
  obtain ⟨p1, p2, p3⟩ := fk (a := a) HR.out rfl Aa.out Ab.out (⟨kv, vv, rfl, HV.out⟩) rfl Ah.out HC.out (by decide) Al.out Ac hg
  have P1 := ec p1
  have P2 := ec p2
  have P3 := ec ((HF.out.fg _).trans p3)
  clear p1 p2 p3 Ac hg Aa Ab HR HF
  go_wp2_with fail
  go_ret
  exact .of_ok HO.out P1.out P2.out P3.out
theorem oU (readM : M (List ee)) (CR : ∀ s w, Rd R L N s st w → Calls Tryz.prog 190 #[.pointer (some ⟨R, 0, none⟩)] w (Ends R L N st w (Strs (fo w)) (readM s)))
    (Z : Nat → Prop) (l : List (List ee)) (tv : Value) (most : Int) (hl : l.length ≤ 70000) (hT : Rows Z 22 1 (cClass Z) w l tv) (hz : ∀ g, w.heap.size ≤ g → Z g) (hzR : ∀ g, Z g → R < g)
    (h : Rd R L N s st w) (o : Out (List ee)) (ho : gO l.length most readM s = o) :
    Calls Tryz.prog 189 #[.pointer (some ⟨R, 0, none⟩), tv, .int .i64 most, .func (.func 190) #[.pointer (some ⟨R, 0, none⟩)] #[]] w
     (EndsA R L N st w tv.ownBlock (fun w' a v => Rows Z 22 1 (cClass Z) w' (l ++ [a]) v) o) := by
 obtain ⟨iM, Ak, Aj, Ai, Am⟩ := fY vF
 have HO := ec (io ho)
 have H := ec h
 obtain ⟨xs, Af, Ag⟩ := hT
 have Ad := ec Af
 have Ae := ec Ag
 have HZ := ec hz
 have Al := ec hzR
 have CR := ec CR
 obtain ⟨ta, tc, rfl⟩ := gd Af.1
 have c3 := h.c3
 have f3 := h.frz 3
 have Ao := h.lt
 clear h ho Af Ag hz hzR
 generalize hfl : (s.full || decide (most ≤ (l.length : Int))) = fl at HO
 have HS := ec (H.out.setFull fl)
 cases hsf : s.full with
 | true =>
  rw [hsf] at c3
  have hb : true = fl := by rw [hsf] at hfl; simpa using hfl
  subst hb
  clear hsf hfl
  go_enter Tryz.func189, Tryz.ntmps189
  go_wp2_with fail
  refine (CR.out _ _ HS.out).mono ?_
  intro e w2 he
  rcases he.split with ⟨a, t, v, ho, rfl, hv, hR, hF⟩ | ⟨c, m, ho, rfl, hF⟩
  rotate_left 1
  · exact eg rfl (.of_bad (ho.symm.trans HO.out) (((Fq.refl R w).set 3 _).trans hF))
  have HO := ec (ho.symm.trans HO.out)
  have HR := ec hR
  have HF := ec (((Fq.refl R w).set 3 _).trans hF)
  have Ah : Hid (∀ g, w2.heap.size ≤ g → Z g) := ec fun g hg => HZ.out g (Nat.le_trans HF.out.size hg)
  have Aa := ec (Ad.out.keep (Kp.of_fq (T := [22]) HF.out H.out (by decide)) (by decide))
  have HC : Hid (∀ w w' b ys, Kp ei Z w w' → (cClass Z) w b ys → (cClass Z) w' b ys) := ec (fun _ _ _ _ hk h => h.keep hk)
  have Ab : Hid (∀ i b, l[i]? = some b → (cClass Z) w2 b ((xs.drop (i * 1)).take 1)) := ec fun i b hi => HC.out _ _ _ _ (Kp.of_fq HF.out H.out (by decide)) (Ae.out i b hi)
  obtain ⟨pa, pc, rfl⟩ := ed hv
  have HV := ec (Strs.mono hv fun g hg => HZ.out g (by simpa [fo] using hg))
  clear hv
  clear he ho hR hF CR HS Ad Ae H
  go_wp2_with (at_builtin; go_must (refine eO _ rfl _ _ 25 rfl 0 22 iM _ 1 24 Tryz.underlying25 Ak Aj Ai Am rfl (by decide) _ _ _ rfl (Aa.out.1.alloc _) ⟨w2.heap.size, 0, none⟩ 1 [.slice pa a.length pc] rfl rfl (fP rfl) (by intro u hu; simp only [List.mem_cons, List.not_mem_nil, or_false] at hu; rcases hu with rfl <;> first | rfl | exact fB HV.out) (by unfold maxLen; omega) (by omega) (Nat.zero_le _) ?_))
  intro g An w4 Ac hg
  obtain ⟨p1, p2, p3⟩ := fk (a := a) HR.out rfl Aa.out Ab.out (⟨_, rfl, HV.out⟩) rfl Ah.out HC.out (by decide) Al.out Ac hg
  have P1 := ec p1
  have P2 := ec p2
  have P3 := ec ((HF.out.fg _).trans p3)
  clear p1 p2 p3 Ac hg Aa Ab HR HF
  go_wp2_with fail
  go_ret
  exact .of_ok HO.out P1.out P2.out P3.out
 | false =>
  rw [hsf] at c3
  have hb : (decide (most ≤ (l.length : Int))) = fl := by rw [hsf] at hfl; simpa using hfl
  clear hsf hfl
  go_enter Tryz.func189, Tryz.ntmps189
  go_wp2_with fail
  refine (CR.out _ _ HS.out).mono ?_
  intro e w2 he
  rcases he.split with ⟨a, t, v, ho, rfl, hv, hR, hF⟩ | ⟨c, m, ho, rfl, hF⟩
  rotate_left 1
  · exact eg rfl (.of_bad (ho.symm.trans HO.out) (((Fq.refl R w).set 3 _).trans hF))
  have HO := ec (ho.symm.trans HO.out)
  have HR := ec hR
  have HF := ec (((Fq.refl R w).set 3 _).trans hF)
  have Ah : Hid (∀ g, w2.heap.size ≤ g → Z g) := ec fun g hg => HZ.out g (Nat.le_trans HF.out.size hg)
  have Aa := ec (Ad.out.keep (Kp.of_fq (T := [22]) HF.out H.out (by decide)) (by decide))
  have HC : Hid (∀ w w' b ys, Kp ei Z w w' → (cClass Z) w b ys → (cClass Z) w' b ys) := ec (fun _ _ _ _ hk h => h.keep hk)
  have Ab : Hid (∀ i b, l[i]? = some b → (cClass Z) w2 b ((xs.drop (i * 1)).take 1)) := ec fun i b hi => HC.out _ _ _ _ (Kp.of_fq HF.out H.out (by decide)) (Ae.out i b hi)
  obtain ⟨pa, pc, rfl⟩ := ed hv
  have HV := ec (Strs.mono hv fun g hg => HZ.out g (by simpa [fo] using hg))
  clear hv
  clear he ho hR hF CR HS Ad Ae H
  go_wp2_with (at_builtin; go_must (refine eO _ rfl _ _ 25 rfl 0 22 iM _ 1 24 Tryz.underlying25 Ak Aj Ai Am rfl (by decide) _ _ _ rfl (Aa.out.1.alloc _) ⟨w2.heap.size, 0, none⟩ 1 [.slice pa a.length pc] rfl rfl (fP rfl) (by intro u hu; simp only [List.mem_cons, List.not_mem_nil, or_false] at hu; rcases hu with rfl <;> first | rfl | exact fB HV.out) (by unfold maxLen; omega) (by omega) (Nat.zero_le _) ?_))
  intro g An w4 Ac hg
  obtain ⟨p1, p2, p3⟩ := fk (a := a) HR.out rfl Aa.out Ab.out (⟨_, rfl, HV.out⟩) rfl Ah.out HC.out (by decide) Al.out Ac hg
  have P1 := ec p1
  have P2 := ec p2
  have P3 := ec ((HF.out.fg _).trans p3)
  clear p1 p2 p3 Ac hg Aa Ab HR HF
  go_wp2_with fail
  go_ret
  exact .of_ok HO.out P1.out P2.out P3.out
theorem nV (readM : M (ee × Int)) (CR : ∀ s w, Rd R L N s st w → Calls Tryz.prog 192 #[.pointer (some ⟨R, 0, none⟩)] w (Ends R L N st w D3 (readM s)))
    (Z : Nat → Prop) (l : List (ee × Int)) (tv : Value) (most : Int) (hl : l.length ≤ 70000) (hT : Rows Z 131 2 i8 w l tv) (hz : ∀ g, w.heap.size ≤ g → Z g) (hzR : ∀ g, Z g → R < g)
    (h : Rd R L N s st w) (o : Out (ee × Int)) (ho : gO l.length most readM s = o) :
    Calls Tryz.prog 191 #[.pointer (some ⟨R, 0, none⟩), tv, .int .i64 most, .func (.func 192) #[.pointer (some ⟨R, 0, none⟩)] #[]] w
     (EndsA R L N st w tv.ownBlock (fun w' a v => Rows Z 131 2 i8 w' (l ++ [a]) v) o) := by
 obtain ⟨iM, Ak, Aj, Ai, Am⟩ := fY tQ
 have HO := ec (io ho)
 have H := ec h
 obtain ⟨xs, Af, Ag⟩ := hT
 have Ad := ec Af
 have Ae := ec Ag
 have HZ := ec hz
 have Al := ec hzR
 have CR := ec CR
 obtain ⟨ta, tc, rfl⟩ := gd Af.1
 have c3 := h.c3
 have f3 := h.frz 3
 have Ao := h.lt
 clear h ho Af Ag hz hzR
 generalize hfl : (s.full || decide (most ≤ (l.length : Int))) = fl at HO
 have HS := ec (H.out.setFull fl)
 cases hsf : s.full with
 | true =>
  rw [hsf] at c3
  have hb : true = fl := by rw [hsf] at hfl; simpa using hfl
  subst hb
  clear hsf hfl
  go_enter Tryz.func191, Tryz.ntmps191
  go_wp2_with fail
  refine (CR.out _ _ HS.out).mono ?_
  intro e w2 he
  rcases he.split with ⟨a, t, v, ho, rfl, hv, hR, hF⟩ | ⟨c, m, ho, rfl, hF⟩
  rotate_left 1
  · exact eg rfl (.of_bad (ho.symm.trans HO.out) (((Fq.refl R w).set 3 _).trans hF))
  have HO := ec (ho.symm.trans HO.out)
  have HR := ec hR
  have HF := ec (((Fq.refl R w).set 3 _).trans hF)
  have Ah : Hid (∀ g, w2.heap.size ≤ g → Z g) := ec fun g hg => HZ.out g (Nat.le_trans HF.out.size hg)
  have Aa := ec (Ad.out.keep (Kp.of_fq (T := [131]) HF.out H.out (by decide)) (by decide))
  have HC : Hid (∀ w w' b ys, Kp [] Z w w' → i8 w b ys → i8 w' b ys) := ec (fun _ _ _ _ _ h => h)
  have Ab : Hid (∀ i b, l[i]? = some b → i8 w2 b ((xs.drop (i * 2)).take 2)) := ec fun i b hi => HC.out _ _ _ _ (Kp.of_fq HF.out H.out (by decide)) (Ae.out i b hi)
  cases hv
  clear he ho hR hF CR HS Ad Ae H
  go_wp2_with (at_builtin; go_must (refine eO _ rfl _ _ 26 rfl 0 131 iM _ 2 24 Tryz.underlying26 Ak Aj Ai Am rfl (by decide) _ _ _ rfl (Aa.out.1.alloc _) ⟨w2.heap.size, 0, none⟩ 1 [.string ⟨a.1.toArray⟩, .int .i64 a.2] rfl rfl (fP rfl) (by simp [Value.oneCell']) (by unfold maxLen; omega) (by omega) (Nat.zero_le _) ?_))
  intro g An w4 Ac hg
  obtain ⟨p1, p2, p3⟩ := fk (a := a) HR.out rfl Aa.out Ab.out (rfl) rfl Ah.out HC.out (by decide) Al.out Ac hg
  have P1 := ec p1
  have P2 := ec p2
  have P3 := ec ((HF.out.fg _).trans p3)
  clear p1 p2 p3 Ac hg Aa Ab HR HF
  go_wp2_with fail
  go_ret
  exact .of_ok HO.out P1.out P2.out P3.out
 | false =>
  rw [hsf] at c3
  have hb : (decide (most ≤ (l.length : Int))) = fl := by rw [hsf] at hfl; simpa using hfl
  clear hsf hfl
  go_enter Tryz.func191, Tryz.ntmps191
  go_wp2_with fail
  refine (CR.out _ _ HS.out).mono ?_
  intro e w2 he
  rcases he.split with ⟨a, t, v, ho, rfl, hv, hR, hF⟩ | ⟨c, m, ho, rfl, hF⟩
  rotate_left 1
  · exact eg rfl (.of_bad (ho.symm.trans HO.out) (((Fq.refl R w).set 3 _).trans hF))
  have HO := ec (ho.symm.trans HO.out)
  have HR := ec hR
  have HF := ec (((Fq.refl R w).set 3 _).trans hF)
  have Ah : Hid (∀ g, w2.heap.size ≤ g → Z g) := ec fun g hg => HZ.out g (Nat.le_trans HF.out.size hg)
  have Aa := ec (Ad.out.keep (Kp.of_fq (T := [131]) HF.out H.out (by decide)) (by decide))
  have HC : Hid (∀ w w' b ys, Kp [] Z w w' → i8 w b ys → i8 w' b ys) := ec (fun _ _ _ _ _ h => h)
  have Ab : Hid (∀ i b, l[i]? = some b → i8 w2 b ((xs.drop (i * 2)).take 2)) := ec fun i b hi => HC.out _ _ _ _ (Kp.of_fq HF.out H.out (by decide)) (Ae.out i b hi)
  cases hv
  clear he ho hR hF CR HS Ad Ae H
  go_wp2_with (at_builtin; go_must (refine eO _ rfl _ _ 26 rfl 0 131 iM _ 2 24 Tryz.underlying26 Ak Aj Ai Am rfl (by decide) _ _ _ rfl (Aa.out.1.alloc _) ⟨w2.heap.size, 0, none⟩ 1 [.string ⟨a.1.toArray⟩, .int .i64 a.2] rfl rfl (fP rfl) (by simp [Value.oneCell']) (by unfold maxLen; omega) (by omega) (Nat.zero_le _) ?_))
  intro g An w4 Ac hg
  obtain ⟨p1, p2, p3⟩ := fk (a := a) HR.out rfl Aa.out Ab.out (rfl) rfl Ah.out HC.out (by decide) Al.out Ac hg
  have P1 := ec p1
  have P2 := ec p2
  have P3 := ec ((HF.out.fg _).trans p3)
  clear p1 p2 p3 Ac hg Aa Ab HR HF
  go_wp2_with fail
  go_ret
  exact .of_ok HO.out P1.out P2.out P3.out
theorem sq (readM : M gI) (CR : ∀ s w, Rd R L N s st w → Calls Tryz.prog 194 #[.pointer (some ⟨R, 0, none⟩)] w (Ends R L N st w (vW (fo w)) (readM s)))
    (Z : Nat → Prop) (l : List gI) (tv : Value) (most : Int) (hl : l.length ≤ 70000) (hT : Rows Z 49 11 (cRule Z) w l tv) (hz : ∀ g, w.heap.size ≤ g → Z g) (hzR : ∀ g, Z g → R < g)
    (h : Rd R L N s st w) (o : Out gI) (ho : gO l.length most readM s = o) :
    Calls Tryz.prog 193 #[.pointer (some ⟨R, 0, none⟩), tv, .int .i64 most, .func (.func 194) #[.pointer (some ⟨R, 0, none⟩)] #[]] w
     (EndsA R L N st w tv.ownBlock (fun w' a v => Rows Z 49 11 (cRule Z) w' (l ++ [a]) v) o) := by
 obtain ⟨iM, Ak, Aj, Ai, Am⟩ := fY wH
 have HO := ec (io ho)
 have H := ec h
 obtain ⟨xs, Af, Ag⟩ := hT
 have Ad := ec Af
 have Ae := ec Ag
 have HZ := ec hz
 have Al := ec hzR
 have CR := ec CR
 obtain ⟨ta, tc, rfl⟩ := gd Af.1
 have c3 := h.c3
 have f3 := h.frz 3
 have Ao := h.lt
 clear h ho Af Ag hz hzR
 generalize hfl : (s.full || decide (most ≤ (l.length : Int))) = fl at HO
 have HS := ec (H.out.setFull fl)
 cases hsf : s.full with
 | true =>
  rw [hsf] at c3
  have hb : true = fl := by rw [hsf] at hfl; simpa using hfl
  subst hb
  clear hsf hfl
  go_enter Tryz.func193, Tryz.ntmps193
  go_wp2_with fail
  refine (CR.out _ _ HS.out).mono ?_
  intro e w2 he
  rcases he.split with ⟨a, t, v, ho, rfl, hv, hR, hF⟩ | ⟨c, m, ho, rfl, hF⟩
  rotate_left 1
  · exact eg rfl (.of_bad (ho.symm.trans HO.out) (((Fq.refl R w).set 3 _).trans hF))
  have HO := ec (ho.symm.trans HO.out)
  have HR := ec hR
  have HF := ec (((Fq.refl R w).set 3 _).trans hF)
  have Ah : Hid (∀ g, w2.heap.size ≤ g → Z g) := ec fun g hg => HZ.out g (Nat.le_trans HF.out.size hg)
  have Aa := ec (Ad.out.keep (Kp.of_fq (T := [49]) HF.out H.out (by decide)) (by decide))
  have HC : Hid (∀ w w' b ys, Kp ei Z w w' → (cRule Z) w b ys → (cRule Z) w' b ys) := ec (fun _ _ _ _ hk h => h.keep hk)
  have Ab : Hid (∀ i b, l[i]? = some b → (cRule Z) w2 b ((xs.drop (i * 11)).take 11)) := ec fun i b hi => HC.out _ _ _ _ (Kp.of_fq HF.out H.out (by decide)) (Ae.out i b hi)
  obtain ⟨bv, av, rfl, hv⟩ := hv
  have HV := ec ((⟨Prems.mono hv.1 fun g hg => HZ.out g (by simpa [fo] using hg), Strs.mono hv.2 fun g hg => HZ.out g (by simpa [fo] using hg)⟩ : Prems Z w2 a.body bv ∧ Strs Z w2 a.head.args av))
  clear hv
  clear he ho hR hF CR HS Ad Ae H
  go_wp2_with (at_builtin; go_must (refine eO _ rfl _ _ 27 rfl 0 49 iM _ 11 144 Tryz.underlying27 Ak Aj Ai Am rfl (by decide) _ _ _ rfl (Aa.out.1.alloc _) ⟨w2.heap.size, 0, none⟩ 1 [.string ⟨a.name.toArray⟩, .string ⟨a.source.toArray⟩, .int .i64 a.day, .int .i64 a.till, bv, .int .i64 a.arrow, .bool a.head.neg, .string ⟨a.head.pred.toArray⟩, av, .bool a.head.hasValue, .int .i64 a.head.value] rfl rfl (fP rfl) (by intro u hu; simp only [List.mem_cons, List.not_mem_nil, or_false] at hu; rcases hu with rfl | rfl | rfl | rfl | rfl | rfl | rfl | rfl | rfl | rfl | rfl <;> first | rfl | exact fB HV.out.1 | exact fB HV.out.2) (by unfold maxLen; omega) (by omega) (Nat.zero_le _) ?_))
  intro g An w4 Ac hg
  obtain ⟨p1, p2, p3⟩ := fk (a := a) HR.out rfl Aa.out Ab.out (⟨bv, av, rfl, HV.out⟩) rfl Ah.out HC.out (by decide) Al.out Ac hg
  have P1 := ec p1
  have P2 := ec p2
  have P3 := ec ((HF.out.fg _).trans p3)
  clear p1 p2 p3 Ac hg Aa Ab HR HF
  go_wp2_with fail
  go_ret
  exact .of_ok HO.out P1.out P2.out P3.out
 | false =>
  rw [hsf] at c3
  have hb : (decide (most ≤ (l.length : Int))) = fl := by rw [hsf] at hfl; simpa using hfl
  clear hsf hfl
  go_enter Tryz.func193, Tryz.ntmps193
  go_wp2_with fail
  refine (CR.out _ _ HS.out).mono ?_
  intro e w2 he
  rcases he.split with ⟨a, t, v, ho, rfl, hv, hR, hF⟩ | ⟨c, m, ho, rfl, hF⟩
  rotate_left 1
  · exact eg rfl (.of_bad (ho.symm.trans HO.out) (((Fq.refl R w).set 3 _).trans hF))
  have HO := ec (ho.symm.trans HO.out)
  have HR := ec hR
  have HF := ec (((Fq.refl R w).set 3 _).trans hF)
  have Ah : Hid (∀ g, w2.heap.size ≤ g → Z g) := ec fun g hg => HZ.out g (Nat.le_trans HF.out.size hg)
  have Aa := ec (Ad.out.keep (Kp.of_fq (T := [49]) HF.out H.out (by decide)) (by decide))
  have HC : Hid (∀ w w' b ys, Kp ei Z w w' → (cRule Z) w b ys → (cRule Z) w' b ys) := ec (fun _ _ _ _ hk h => h.keep hk)
  have Ab : Hid (∀ i b, l[i]? = some b → (cRule Z) w2 b ((xs.drop (i * 11)).take 11)) := ec fun i b hi => HC.out _ _ _ _ (Kp.of_fq HF.out H.out (by decide)) (Ae.out i b hi)
  obtain ⟨bv, av, rfl, hv⟩ := hv
  have HV := ec ((⟨Prems.mono hv.1 fun g hg => HZ.out g (by simpa [fo] using hg), Strs.mono hv.2 fun g hg => HZ.out g (by simpa [fo] using hg)⟩ : Prems Z w2 a.body bv ∧ Strs Z w2 a.head.args av))
  clear hv
  clear he ho hR hF CR HS Ad Ae H
  go_wp2_with (at_builtin; go_must (refine eO _ rfl _ _ 27 rfl 0 49 iM _ 11 144 Tryz.underlying27 Ak Aj Ai Am rfl (by decide) _ _ _ rfl (Aa.out.1.alloc _) ⟨w2.heap.size, 0, none⟩ 1 [.string ⟨a.name.toArray⟩, .string ⟨a.source.toArray⟩, .int .i64 a.day, .int .i64 a.till, bv, .int .i64 a.arrow, .bool a.head.neg, .string ⟨a.head.pred.toArray⟩, av, .bool a.head.hasValue, .int .i64 a.head.value] rfl rfl (fP rfl) (by intro u hu; simp only [List.mem_cons, List.not_mem_nil, or_false] at hu; rcases hu with rfl | rfl | rfl | rfl | rfl | rfl | rfl | rfl | rfl | rfl | rfl <;> first | rfl | exact fB HV.out.1 | exact fB HV.out.2) (by unfold maxLen; omega) (by omega) (Nat.zero_le _) ?_))
  intro g An w4 Ac hg
  obtain ⟨p1, p2, p3⟩ := fk (a := a) HR.out rfl Aa.out Ab.out (⟨bv, av, rfl, HV.out⟩) rfl Ah.out HC.out (by decide) Al.out Ac hg
  have P1 := ec p1
  have P2 := ec p2
  have P3 := ec ((HF.out.fg _).trans p3)
  clear p1 p2 p3 Ac hg Aa Ab HR HF
  go_wp2_with fail
  go_ret
  exact .of_ok HO.out P1.out P2.out P3.out
theorem mO (readM : M (ee × ee)) (CR : ∀ s w, Rd R L N s st w → Calls Tryz.prog 196 #[.pointer (some ⟨R, 0, none⟩)] w (Ends R L N st w vM (readM s)))
    (Z : Nat → Prop) (l : List (ee × ee)) (tv : Value) (most : Int) (hl : l.length ≤ 70000) (hT : Rows Z 133 2 cM w l tv) (hz : ∀ g, w.heap.size ≤ g → Z g) (hzR : ∀ g, Z g → R < g)
    (h : Rd R L N s st w) (o : Out (ee × ee)) (ho : gO l.length most readM s = o) :
    Calls Tryz.prog 195 #[.pointer (some ⟨R, 0, none⟩), tv, .int .i64 most, .func (.func 196) #[.pointer (some ⟨R, 0, none⟩)] #[]] w
     (EndsA R L N st w tv.ownBlock (fun w' a v => Rows Z 133 2 cM w' (l ++ [a]) v) o) := by
 obtain ⟨iM, Ak, Aj, Ai, Am⟩ := fY ul
 have HO := ec (io ho)
 have H := ec h
 obtain ⟨xs, Af, Ag⟩ := hT
 have Ad := ec Af
 have Ae := ec Ag
 have HZ := ec hz
 have Al := ec hzR
 have CR := ec CR
 obtain ⟨ta, tc, rfl⟩ := gd Af.1
 have c3 := h.c3
 have f3 := h.frz 3
 have Ao := h.lt
 clear h ho Af Ag hz hzR
 generalize hfl : (s.full || decide (most ≤ (l.length : Int))) = fl at HO
 have HS := ec (H.out.setFull fl)
 cases hsf : s.full with
 | true =>
  rw [hsf] at c3
  have hb : true = fl := by rw [hsf] at hfl; simpa using hfl
  subst hb
  clear hsf hfl
  go_enter Tryz.func195, Tryz.ntmps195
  go_wp2_with fail
  refine (CR.out _ _ HS.out).mono ?_
  intro e w2 he
  rcases he.split with ⟨a, t, v, ho, rfl, hv, hR, hF⟩ | ⟨c, m, ho, rfl, hF⟩
  rotate_left 1
  · exact eg rfl (.of_bad (ho.symm.trans HO.out) (((Fq.refl R w).set 3 _).trans hF))
  have HO := ec (ho.symm.trans HO.out)
  have HR := ec hR
  have HF := ec (((Fq.refl R w).set 3 _).trans hF)
  have Ah : Hid (∀ g, w2.heap.size ≤ g → Z g) := ec fun g hg => HZ.out g (Nat.le_trans HF.out.size hg)
  have Aa := ec (Ad.out.keep (Kp.of_fq (T := [133]) HF.out H.out (by decide)) (by decide))
  have HC : Hid (∀ w w' b ys, Kp [] Z w w' → cM w b ys → cM w' b ys) := ec (fun _ _ _ _ _ h => h)
  have Ab : Hid (∀ i b, l[i]? = some b → cM w2 b ((xs.drop (i * 2)).take 2)) := ec fun i b hi => HC.out _ _ _ _ (Kp.of_fq HF.out H.out (by decide)) (Ae.out i b hi)
  cases hv
  clear he ho hR hF CR HS Ad Ae H
  go_wp2_with (at_builtin; go_must (refine eO _ rfl _ _ 28 rfl 0 133 iM _ 2 32 Tryz.underlying28 Ak Aj Ai Am rfl (by decide) _ _ _ rfl (Aa.out.1.alloc _) ⟨w2.heap.size, 0, none⟩ 1 [.string ⟨a.1.toArray⟩, .string ⟨a.2.toArray⟩] rfl rfl (fP rfl) (by simp [Value.oneCell']) (by unfold maxLen; omega) (by omega) (Nat.zero_le _) ?_))
  intro g An w4 Ac hg
  obtain ⟨p1, p2, p3⟩ := fk (a := a) HR.out rfl Aa.out Ab.out (rfl) rfl Ah.out HC.out (by decide) Al.out Ac hg
  have P1 := ec p1
  have P2 := ec p2
  have P3 := ec ((HF.out.fg _).trans p3)
  clear p1 p2 p3 Ac hg Aa Ab HR HF
  go_wp2_with fail
  go_ret
  exact .of_ok HO.out P1.out P2.out P3.out
 | false =>
  rw [hsf] at c3
  have hb : (decide (most ≤ (l.length : Int))) = fl := by rw [hsf] at hfl; simpa using hfl
  clear hsf hfl
  go_enter Tryz.func195, Tryz.ntmps195
  go_wp2_with fail
  refine (CR.out _ _ HS.out).mono ?_
  intro e w2 he
  rcases he.split with ⟨a, t, v, ho, rfl, hv, hR, hF⟩ | ⟨c, m, ho, rfl, hF⟩
  rotate_left 1
  · exact eg rfl (.of_bad (ho.symm.trans HO.out) (((Fq.refl R w).set 3 _).trans hF))
  have HO := ec (ho.symm.trans HO.out)
  have HR := ec hR
  have HF := ec (((Fq.refl R w).set 3 _).trans hF)
  have Ah : Hid (∀ g, w2.heap.size ≤ g → Z g) := ec fun g hg => HZ.out g (Nat.le_trans HF.out.size hg)
  have Aa := ec (Ad.out.keep (Kp.of_fq (T := [133]) HF.out H.out (by decide)) (by decide))
  have HC : Hid (∀ w w' b ys, Kp [] Z w w' → cM w b ys → cM w' b ys) := ec (fun _ _ _ _ _ h => h)
  have Ab : Hid (∀ i b, l[i]? = some b → cM w2 b ((xs.drop (i * 2)).take 2)) := ec fun i b hi => HC.out _ _ _ _ (Kp.of_fq HF.out H.out (by decide)) (Ae.out i b hi)
  cases hv
  clear he ho hR hF CR HS Ad Ae H
  go_wp2_with (at_builtin; go_must (refine eO _ rfl _ _ 28 rfl 0 133 iM _ 2 32 Tryz.underlying28 Ak Aj Ai Am rfl (by decide) _ _ _ rfl (Aa.out.1.alloc _) ⟨w2.heap.size, 0, none⟩ 1 [.string ⟨a.1.toArray⟩, .string ⟨a.2.toArray⟩] rfl rfl (fP rfl) (by simp [Value.oneCell']) (by unfold maxLen; omega) (by omega) (Nat.zero_le _) ?_))
  intro g An w4 Ac hg
  obtain ⟨p1, p2, p3⟩ := fk (a := a) HR.out rfl Aa.out Ab.out (rfl) rfl Ah.out HC.out (by decide) Al.out Ac hg
  have P1 := ec p1
  have P2 := ec p2
  have P3 := ec ((HF.out.fg _).trans p3)
  clear p1 p2 p3 Ac hg Aa Ab HR HF
  go_wp2_with fail
  go_ret
  exact .of_ok HO.out P1.out P2.out P3.out
theorem po (readM : M gx) (CR : ∀ s w, Rd R L N s st w → Calls Tryz.prog 198 #[.pointer (some ⟨R, 0, none⟩)] w (Ends R L N st w (sT (fo w)) (readM s)))
    (Z : Nat → Prop) (l : List gx) (tv : Value) (most : Int) (hl : l.length ≤ 70000) (hT : Rows Z 135 5 (cTotal Z) w l tv) (hz : ∀ g, w.heap.size ≤ g → Z g) (hzR : ∀ g, Z g → R < g)
    (h : Rd R L N s st w) (o : Out gx) (ho : gO l.length most readM s = o) :
    Calls Tryz.prog 197 #[.pointer (some ⟨R, 0, none⟩), tv, .int .i64 most, .func (.func 198) #[.pointer (some ⟨R, 0, none⟩)] #[]] w
     (EndsA R L N st w tv.ownBlock (fun w' a v => Rows Z 135 5 (cTotal Z) w' (l ++ [a]) v) o) := by
 obtain ⟨iM, Ak, Aj, Ai, Am⟩ := fY uY
 have HO := ec (io ho)
 have H := ec h
 obtain ⟨xs, Af, Ag⟩ := hT
 have Ad := ec Af
 have Ae := ec Ag
 have HZ := ec hz
 have Al := ec hzR
 have CR := ec CR
 obtain ⟨ta, tc, rfl⟩ := gd Af.1
 have c3 := h.c3
 have f3 := h.frz 3
 have Ao := h.lt
 clear h ho Af Ag hz hzR
 generalize hfl : (s.full || decide (most ≤ (l.length : Int))) = fl at HO
 have HS := ec (H.out.setFull fl)
 cases hsf : s.full with
 | true =>
  rw [hsf] at c3
  have hb : true = fl := by rw [hsf] at hfl; simpa using hfl
  subst hb
  clear hsf hfl
  go_enter Tryz.func197, Tryz.ntmps197
  go_wp2_with fail
  refine (CR.out _ _ HS.out).mono ?_
  intro e w2 he
  rcases he.split with ⟨a, t, v, ho, rfl, hv, hR, hF⟩ | ⟨c, m, ho, rfl, hF⟩
  rotate_left 1
  · exact eg rfl (.of_bad (ho.symm.trans HO.out) (((Fq.refl R w).set 3 _).trans hF))
  have HO := ec (ho.symm.trans HO.out)
  have HR := ec hR
  have HF := ec (((Fq.refl R w).set 3 _).trans hF)
  have Ah : Hid (∀ g, w2.heap.size ≤ g → Z g) := ec fun g hg => HZ.out g (Nat.le_trans HF.out.size hg)
  have Aa := ec (Ad.out.keep (Kp.of_fq (T := [135]) HF.out H.out (by decide)) (by decide))
  have HC : Hid (∀ w w' b ys, Kp ei Z w w' → (cTotal Z) w b ys → (cTotal Z) w' b ys) := ec (fun _ _ _ _ hk h => h.keep hk)
  have Ab : Hid (∀ i b, l[i]? = some b → (cTotal Z) w2 b ((xs.drop (i * 5)).take 5)) := ec fun i b hi => HC.out _ _ _ _ (Kp.of_fq HF.out H.out (by decide)) (Ae.out i b hi)
  obtain ⟨pv, rfl, hv⟩ := hv
  have HV := ec (Strs.mono hv fun g hg => HZ.out g (by simpa [fo] using hg))
  clear hv
  clear he ho hR hF CR HS Ad Ae H
  go_wp2_with (at_builtin; go_must (refine eO _ rfl _ _ 29 rfl 0 135 iM _ 5 72 Tryz.underlying29 Ak Aj Ai Am rfl (by decide) _ _ _ rfl (Aa.out.1.alloc _) ⟨w2.heap.size, 0, none⟩ 1 [.string ⟨a.name.toArray⟩, .string ⟨a.kind.toArray⟩, pv, .bool a.hasCap, .int .i64 a.cap] rfl rfl (fP rfl) (by intro u hu; simp only [List.mem_cons, List.not_mem_nil, or_false] at hu; rcases hu with rfl | rfl | rfl | rfl | rfl <;> first | rfl | exact fB HV.out) (by unfold maxLen; omega) (by omega) (Nat.zero_le _) ?_))
  intro g An w4 Ac hg
  obtain ⟨p1, p2, p3⟩ := fk (a := a) HR.out rfl Aa.out Ab.out (⟨pv, rfl, HV.out⟩) rfl Ah.out HC.out (by decide) Al.out Ac hg
  have P1 := ec p1
  have P2 := ec p2
  have P3 := ec ((HF.out.fg _).trans p3)
  clear p1 p2 p3 Ac hg Aa Ab HR HF
  go_wp2_with fail
  go_ret
  exact .of_ok HO.out P1.out P2.out P3.out
 | false =>
  rw [hsf] at c3
  have hb : (decide (most ≤ (l.length : Int))) = fl := by rw [hsf] at hfl; simpa using hfl
  clear hsf hfl
  go_enter Tryz.func197, Tryz.ntmps197
  go_wp2_with fail
  refine (CR.out _ _ HS.out).mono ?_
  intro e w2 he
  rcases he.split with ⟨a, t, v, ho, rfl, hv, hR, hF⟩ | ⟨c, m, ho, rfl, hF⟩
  rotate_left 1
  · exact eg rfl (.of_bad (ho.symm.trans HO.out) (((Fq.refl R w).set 3 _).trans hF))
  have HO := ec (ho.symm.trans HO.out)
  have HR := ec hR
  have HF := ec (((Fq.refl R w).set 3 _).trans hF)
  have Ah : Hid (∀ g, w2.heap.size ≤ g → Z g) := ec fun g hg => HZ.out g (Nat.le_trans HF.out.size hg)
  have Aa := ec (Ad.out.keep (Kp.of_fq (T := [135]) HF.out H.out (by decide)) (by decide))
  have HC : Hid (∀ w w' b ys, Kp ei Z w w' → (cTotal Z) w b ys → (cTotal Z) w' b ys) := ec (fun _ _ _ _ hk h => h.keep hk)
  have Ab : Hid (∀ i b, l[i]? = some b → (cTotal Z) w2 b ((xs.drop (i * 5)).take 5)) := ec fun i b hi => HC.out _ _ _ _ (Kp.of_fq HF.out H.out (by decide)) (Ae.out i b hi)
  obtain ⟨pv, rfl, hv⟩ := hv
  have HV := ec (Strs.mono hv fun g hg => HZ.out g (by simpa [fo] using hg))
  clear hv
  clear he ho hR hF CR HS Ad Ae H
  go_wp2_with (at_builtin; go_must (refine eO _ rfl _ _ 29 rfl 0 135 iM _ 5 72 Tryz.underlying29 Ak Aj Ai Am rfl (by decide) _ _ _ rfl (Aa.out.1.alloc _) ⟨w2.heap.size, 0, none⟩ 1 [.string ⟨a.name.toArray⟩, .string ⟨a.kind.toArray⟩, pv, .bool a.hasCap, .int .i64 a.cap] rfl rfl (fP rfl) (by intro u hu; simp only [List.mem_cons, List.not_mem_nil, or_false] at hu; rcases hu with rfl | rfl | rfl | rfl | rfl <;> first | rfl | exact fB HV.out) (by unfold maxLen; omega) (by omega) (Nat.zero_le _) ?_))
  intro g An w4 Ac hg
  obtain ⟨p1, p2, p3⟩ := fk (a := a) HR.out rfl Aa.out Ab.out (⟨pv, rfl, HV.out⟩) rfl Ah.out HC.out (by decide) Al.out Ac hg
  have P1 := ec p1
  have P2 := ec p2
  have P3 := ec ((HF.out.fg _).trans p3)
  clear p1 p2 p3 Ac hg Aa Ab HR HF
  go_wp2_with fail
  go_ret
  exact .of_ok HO.out P1.out P2.out P3.out
end
end Go.Proofs.YtbpphlmakmeoaaaGreatDoor.Sy
