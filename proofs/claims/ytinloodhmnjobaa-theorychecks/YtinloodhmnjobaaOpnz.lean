/- A theory and a list among the arguments, opened, with the sizes of their lists. -/
import Derived.Test.YtinloodhmnjobaaOpnt
import Derived.Test.YtinloodhmnjobaaCpf
namespace Go.Proofs.Ytinloodhmnjobaa
open Go.ChangeShapes Go.WideShapes Go.RowKit Go.Deep
section
variable {H : Type} {enc : TypeId × Value → H} {W : World}
theorem opz_n {b : Nat} {t e : TypeId} (ht : Try.prog.underlying t = some (.slice e)) (hb : b ≤ Try.prog.bytesOf e) {fuel : Nat} {cs : List Value} {d : DataW H} {p : List MemPlace} (h : DataW.trod enc Try.prog W 0 (fun _ => true) true fuel t cs = some (d, p)) (hw : ∀ n ∈ d.weights Try.prog t, n ≤ reachBytes) : ∃ n a c, cs = [.slice a n c] ∧ n * b ≤ 140737488351232 := by
  rcases open_slice ht h with ⟨rfl, _⟩ | ⟨x, len, cap, m, n, D, Pl, rfl, _, hl, hm, hmm, hx, hel⟩
  · exact ⟨0, _, _, rfl, by omega⟩
  · simp only [Prod.mk.injEq] at hx
    obtain ⟨rfl, _⟩ := hx
    have hm2 : m = cap := by simpa using hmm
    simp only [DataW.weights, ht, List.mem_cons, List.mem_append] at hw
    have hs := hw _ (.inl rfl)
    simp only [List.length_map, List.length_range, reachBytes] at hs
    have hlen : len * b ≤ (len + (m - len)) * Try.prog.bytesOf e := Nat.mul_le_mul (by omega) hb
    exact ⟨len, _, _, rfl, by omega⟩
theorem opz_l {α : Type} {t e : TypeId} {b k : Nat} {c : World → α → List Value → Prop} {P : α → Prop} (ht : Try.prog.underlying t = some (.slice e)) (hk : Try.prog.cellsOf e = k) (hk1 : 0 < k) (hb1 : 1 ≤ Try.prog.bytesOf e) (hb : b ≤ Try.prog.bytesOf e) (ho : Opn enc W e (fun w a xs => c w a xs ∧ P a)) : Opn enc W t (fun w l xs => cQ W.heap.size k c w l xs ∧ (l.length * b ≤ 140737488351232 ∧ ∀ x ∈ l, P x)) := by
  intro fuel cs d p h hw
  obtain ⟨l, v, e1, hr⟩ := opn_l ht hk hk1 hb1 ho fuel cs d p h hw
  obtain ⟨n, a, c', e2, hn⟩ := opz_n ht hb h hw
  refine ⟨l, ⟨v, e1, RR.up hr (Nat.le_refl _) fun _ _ h => h.1⟩, ?_, fun x hx => ?_⟩
  · obtain ⟨a2, c2, e3, _⟩ := hr
    rw [e1, e3] at e2
    simp only [List.cons.injEq, Value.slice.injEq, and_true] at e2
    obtain ⟨_, e2, _⟩ := e2
    rw [e2]
    exact hn
  · obtain ⟨i, hi⟩ := List.mem_iff_getElem?.1 hx
    obtain ⟨_, _, _, _, _, hr⟩ := hr
    obtain ⟨_, _, _, _, _, _, _, hp⟩ := hr i x hi
    exact hp.2
theorem opz_t {α : Type} {t : TypeId} {c : World → α → List Value → Prop} (ho : Opn enc W t c) : Opn enc W t (fun w a xs => c w a xs ∧ True) := fun f cs d p h hw => by
  obtain ⟨a, ha⟩ := ho f cs d p h hw
  exact ⟨a, ha, trivial⟩
theorem bz_i : 8 ≤ Try.prog.bytesOf 3 := of_decide_eq_true (by kernel_rfl)
theorem bz_I : 24 ≤ Try.prog.bytesOf 26 := of_decide_eq_true (by kernel_rfl)
theorem bz_R : 40 ≤ Try.prog.bytesOf 53 := of_decide_eq_true (by kernel_rfl)
theorem opz_I : Opn enc W 26 (fun w l xs => cQ W.heap.size 1 cI w l xs ∧ l.length ≤ 17592186043904) := fun f cs d p h hw => by
  obtain ⟨l, h1, h2, -⟩ := opz_l (b := 8) (P := fun _ => True) Try.underlying26 cl_i (by decide) by_i bz_i (opz_t (opn_i Try.underlying3)) f cs d p h hw
  exact ⟨l, h1, by omega⟩
theorem opz_L : Opn enc W 22 (fun w l xs => cQ W.heap.size 1 (cL W.heap.size) w l xs ∧ l.length ≤ 5864062014634 ∧ ∀ x ∈ l, x.length ≤ 17592186043904) := fun f cs d p h hw => by
  obtain ⟨l, h1, h2, h3⟩ := opz_l (b := 24) (c := cL W.heap.size) (P := fun l : List Int => l.length ≤ 17592186043904) Try.underlying22 cl_I (by decide) by_I bz_I (fun f cs d p h hw => opz_I f cs d p h hw) f cs d p h hw
  exact ⟨l, h1, by omega, h3⟩
set_option maxRecDepth 100000 in
theorem opz_R : Opn enc W 53 (fun w (x : RuleM) xs => cR W.heap.size w x xs ∧ x.body.length ≤ 17592186043904) := by
  intro fuel cs d p h hw
  have hl := opn_len Try.underlying53 h
  rw [cl_R] at hl
  obtain ⟨a0, h0⟩ := opn_f Try.underlying53 h hw 0 rfl (opn_i Try.underlying51)
  obtain ⟨a1, h1⟩ := opn_f Try.underlying53 h hw 1 rfl (opn_i Try.underlying3)
  obtain ⟨a2, h2⟩ := opn_f Try.underlying53 h hw 2 rfl opz_I
  clear h hw
  match cs, hl with
  | [u0, u1, u2], _ =>
    simp only [cl_k, cl_i, cl_I, List.getElem_toArray, List.getElem_cons_zero, List.getElem_cons_succ, List.drop_zero, List.drop_succ_cons, List.take_succ_cons, List.take_zero] at h0 h1 h2
    cases h0
    cases h1
    obtain ⟨⟨v2, e2, m2⟩, s2⟩ := h2
    cases e2
    exact ⟨⟨a0, a1, a2⟩, ⟨u2, rfl, m2⟩, s2⟩
theorem opz_lR : Opn enc W 23 (fun w l xs => cQ W.heap.size 3 (cR W.heap.size) w l xs ∧ l.length ≤ 3518437208780 ∧ ∀ x ∈ l, (x : RuleM).body.length ≤ 17592186043904) := fun f cs d p h hw => by
  obtain ⟨l, h1, h2, h3⟩ := opz_l (b := 40) (c := cR W.heap.size) (P := fun x : RuleM => x.body.length ≤ 17592186043904) Try.underlying23 cl_R (by decide) by_R bz_R opz_R f cs d p h hw
  exact ⟨l, h1, by omega, h3⟩
set_option maxRecDepth 100000 in
theorem arg_theoryz {base : Nat} {ts : List TypeId} {ds : List (DataW H)} {j : Nat} {v : Value} {d : DataW H} {p : List MemPlace} (hv : Value.okWide Try.prog W .any base 25 v) (h : DataW.Trod enc Try.prog W 0 (fun _ => true) true 25 v d p) (hsz : (DataW.weightsEach Try.prog ts ds).all (· ≤ reachBytes) = true) (ht : ts[j]? = some 25) (hd : ds[j]? = some d) : ∃ T fa fc ra rc ba bc, v = tv T fa fc ra rc ba bc ∧ TA W.heap.size W T fa fc ra rc ba bc ∧ Fa.Sml T := by
  obtain ⟨cs, rfl, hl⟩ := okWide_struct Try.underlying25 hv
  obtain ⟨fuel, h⟩ := h
  have hw : ∀ n ∈ d.weights Try.prog 25, n ≤ reachBytes := fun n hn => of_decide_eq_true (List.all_eq_true.1 hsz _ (DataW.weights_mem_each ht hd n hn))
  rw [cl_T] at hl
  obtain ⟨a0, h0⟩ := opn_f Try.underlying25 h hw 0 rfl (opn_i Try.underlying3)
  obtain ⟨a1, h1⟩ := opn_f Try.underlying25 h hw 1 rfl opz_L
  obtain ⟨a2, h2⟩ := opn_f Try.underlying25 h hw 2 rfl opz_lR
  obtain ⟨a3, h3⟩ := opn_f Try.underlying25 h hw 3 rfl opz_L
  clear h hw hsz
  obtain ⟨cs⟩ := cs
  match cs, hl with
  | [u0, u1, u2, u3], _ =>
    simp only [Value.cells, cl_i, cl_L, cl_lR, List.getElem_toArray, List.getElem_cons_zero, List.getElem_cons_succ, List.drop_zero, List.drop_succ_cons, List.take_succ_cons, List.take_zero] at h0 h1 h2 h3
    cases h0
    obtain ⟨⟨v1, e1, m1⟩, s1, t1⟩ := h1
    cases e1
    obtain ⟨⟨v2, e2, m2⟩, s2, t2⟩ := h2
    cases e2
    obtain ⟨⟨v3, e3, m3⟩, s3, t3⟩ := h3
    cases e3
    obtain ⟨b1, c1, rfl, _⟩ := m1.form
    obtain ⟨b2, c2, rfl, _⟩ := m2.form
    obtain ⟨b3, c3, rfl, _⟩ := m3.form
    exact ⟨⟨a0, a1, a2, a3⟩, b1, c1, b2, c2, b3, c3, rfl, ⟨m1, m2, m3⟩, ⟨s1, fun i l hi => t1 l (List.mem_of_getElem? hi), s2, fun i x hi => t2 x (List.mem_of_getElem? hi), s3, fun i l hi => t3 l (List.mem_of_getElem? hi)⟩⟩
set_option maxRecDepth 100000 in
theorem arg_intsz {base : Nat} {ts : List TypeId} {ds : List (DataW H)} {j : Nat} {v : Value} {d : DataW H} {p : List MemPlace} (hv : Value.okWide Try.prog W .any base 26 v) (h : DataW.Trod enc Try.prog W 0 (fun _ => true) true 26 v d p) (hsz : (DataW.weightsEach Try.prog ts ds).all (· ≤ reachBytes) = true) (ht : ts[j]? = some 26) (hd : ds[j]? = some d) : ∃ (F : List Int) (ea : Option Addr) (ec : Nat), v = .slice ea F.length ec ∧ Ints W.heap.size W F (.slice ea F.length ec) ∧ F.length ≤ 17592186043904 := by
  have hw : ∀ n ∈ d.weights Try.prog 26, n ≤ reachBytes := fun n hn => of_decide_eq_true (List.all_eq_true.1 hsz _ (DataW.weights_mem_each ht hd n hn))
  obtain ⟨a, n, c, rfl⟩ := okWide_slice Try.underlying26 hv
  obtain ⟨fuel, h⟩ := h
  obtain ⟨F, ⟨v', e, hr⟩, hz⟩ := opz_I fuel _ d p h hw
  cases e
  obtain ⟨ea, ec, e2, _⟩ := hr.form
  rw [e2] at hr ⊢
  exact ⟨F, ea, ec, rfl, hr, hz⟩
end
end Go.Proofs.Ytinloodhmnjobaa
