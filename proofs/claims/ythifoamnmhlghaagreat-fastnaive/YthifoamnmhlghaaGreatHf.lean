/- The end: the marks are those that rounds end with. PLAIN. -/
import Derived.Test.YthifoamnmhlghaaGreatHe
namespace Go.Proofs.YthifoamnmhlghaaGreat.Fa

section
variable {T : Th} {F : List Int} {n k : Nat} {m m0 : List Int} {G G' : Gho} {e e' : Es} {K : Int → Int → Bool}
/-- What is told is closed under the conditions, once all is taken. -/
theorem closed_all (hp : Pf T F n) (h : Iv T F n m G e) (hc : Cmp T F n K G e) (ht : Tie T F K G) (hK : ∀ z t, isTag t → has e z t = true → K z t = true) (hm : ∀ q t : Int, 0 ≤ q → q < (n : Int) → isTag t → hs m0 q t = true → has e q t = true) {q : Nat} {t : Int} (hq : q < n) (htag : isTag t) (hcond : condM T F m0 t q = true) : has e q t = true := by
  have whole : ∀ b (r : Nat), r < T.rules.length → kindB T (kW b) r = true → wholeB T m0 r (tp b) = true → ∀ x ∈ bodyM T r, G.a b r x = true := fun b r hr hk hw x hx => by
    obtain ⟨x0, x1⟩ := body_in hp hr hx
    have htp : isTag (tp b) := by cases b; exact tag1; exact tag3
    exact (ht.a b r x hr hk hx).2 (hK x _ htp (hm x _ x0 x1 htp (whl_iff.1 hw x hx)))
  have part : ∀ b (r : Nat), r < T.rules.length → kindB T (kW b) r = true → partB T m0 r (tn b) = true → e.rf b r = true := fun b r hr hk hw => by
    obtain ⟨x, hx, hx2⟩ := prt_iff.1 hw
    obtain ⟨x0, x1⟩ := body_in hp hr hx
    have htn : isTag (tn b) := by cases b; exact tag2; exact tag4
    rw [h.x.rf b r hr]
    exact List.any_eq_true.2 ⟨x, hx, (ht.n b r x hr hk hx).2 (hK x _ htn (hm x _ x0 x1 htn hx2))⟩
  have usd : ∀ r : Nat, r < T.rules.length → wholeB T m0 r 3 = true → used e r = true := fun r hr hw => (h.x.used hr).2 (whole true r hr (kA_kind hr) hw)
  have prt4 : ∀ r : Nat, r < T.rules.length → partB T m0 r 4 = true → e.rf true r = true := fun r hr hw => part true r hr (kA_kind hr) hw
  rcases htag with rfl | rfl | rfl | rfl
  · rw [cond1] at hcond
    rcases plusS_iff.1 hcond with h1 | ⟨r, hr, hw⟩
    · exact hc.cf _ h1
    · obtain ⟨a, rfl, ha, hh, hk⟩ := rule_lt hr
      have := hc.c1 a ha hk (by rw [h.x.ms false a ha hk, lf_zero]; exact whole false a ha hk hw)
      rw [hh] at this
      exact this
  · rw [cond2] at hcond
    obtain ⟨h1, h2⟩ := minusS_iff.1 hcond
    refine hc.c2 q hq h1 fun r hr => ?_
    obtain ⟨a, rfl, ha, hh, hk⟩ := rule_lt hr
    exact part false a ha hk (h2 a hr)
  · rw [cond3] at hcond
    rcases plusD_iff.1 hcond with h1 | ⟨⟨r, hr, hw⟩, h3, h4⟩
    · exact hc.c3 q (hK q 1 tag1 (hm q 1 (by omega) (by omega) tag1 h1))
    · have hte : rulesL T kT (q : Int) ≠ [] := fun e0 => by rw [e0] at hr; cases hr
      obtain ⟨a, rfl, ha, hh, hk⟩ := rule_lt hr
      refine hc.p3 q hq (List.any_eq_true.2 ⟨a, hr, usd a ha hw⟩) ?_
      rw [h.x.ob q hq hte]
      have z1 : lf ((row T.foes (q : Int)).filter (firmB T F)) (fun f => G.f f q) = 0 := lf_zero.2 fun f hf => by
        obtain ⟨hf1, hf2⟩ := List.mem_filter.1 hf
        obtain ⟨f0, f1⟩ := hp.foe q hq f hf1
        exact (ht.f f q hf2 (mem_rival.2 ⟨foe_sym hp (by omega) (by omega) hf1, hte⟩)).2 (hK f 2 tag2 (hm f 2 f0 f1 tag2 (h3 f hf1)))
      have z2 : lf (agL T q) (fun s => G.r s q) = 0 := lf_zero.2 fun s hs => by
        unfold agL at hs
        obtain ⟨b, hb, rfl⟩ := List.mem_map.1 hs
        obtain ⟨hb1, hb2⟩ := List.mem_filter.1 hb
        have hbl := List.mem_range.1 hb1
        have hfo := of_decide_eq_true hb2
        have hrv : (q : Int) ∈ rivalsL T (headOf T b) := mem_rival.2 ⟨foe_sym hp (by omega) (by omega) hfo, hte⟩
        refine hc.gr b hbl q hrv ?_
        rcases atkP_iff.1 (h4 _ hfo b (kind_mem hbl (kA_kind hbl))) with h5 | ⟨t, ht5, h5, h6⟩
        · exact .inl (prt4 b hbl h5)
        · obtain ⟨c, rfl, hcl, hhc, hkc⟩ := rule_lt ht5
          have := hc.cb c hcl hkc (usd c hcl h6) b (of_decide_eq_true h5)
          rw [hhc] at this
          exact .inr this
      rw [z1, z2]
      rfl
  · rw [cond4] at hcond
    obtain ⟨h1, h2⟩ := minusD_iff.1 hcond
    have hKq := hK q 2 tag2 (hm q 2 (by omega) (by omega) tag2 h1)
    rcases h2 with h2 | ⟨f, hf, h2⟩ | ⟨f, hf, s, hsf, h2⟩
    · refine hc.c4 q hq hKq fun r hr => ?_
      obtain ⟨a, rfl, ha, -, -⟩ := rule_lt hr
      exact prt4 a ha (h2 a hr)
    · obtain ⟨f0, f1⟩ := hp.foe q hq f hf
      exact hc.cr q hq hKq f hf (hK f 1 tag1 (hm f 1 f0 f1 tag1 h2))
    · by_cases hte : rulesL T kT (q : Int) = []
      · exact hc.c4 q hq hKq fun r hr => by rw [hte] at hr; cases hr
      · obtain ⟨a, rfl, ha, hha, -⟩ := rule_lt hsf
        obtain ⟨h5, h6⟩ := atkM_iff.1 h2
        have hrv : (q : Int) ∈ rivalsL T (headOf T a) := mem_rival.2 ⟨by rw [hha]; exact foe_sym hp (by omega) (by omega) hf, hte⟩
        refine hc.co q hq hKq a ha hrv (usd a ha h5) ?_
        rw [h.x.cd a ha q hrv, lf_zero]
        intro t ht5
        obtain ⟨ht6, ht7⟩ := List.mem_filter.1 ht5
        obtain ⟨c, rfl, hcl, -, hkc⟩ := rule_lt ht6
        rcases h6 c ht6 with h8 | h8
        · exact hc.gw c hcl hkc (prt4 c hcl h8) a (of_decide_eq_true ht7)
        · rw [h8] at ht7; cases ht7
theorem nib_table : ∀ x y : _root_.Fin 16, (tags.all fun t => decide (hb (x.val : Int) t = hb (y.val : Int) t)) = true → x = y := by decide +kernel
theorem nib_ext {x y : Int} (x0 : 0 ≤ x) (x1 : x < 16) (y0 : 0 ≤ y) (y1 : y < 16) (h : ∀ t, isTag t → hb x t = hb y t) : x = y := by
  obtain ⟨a, rfl⟩ := Int.eq_ofNat_of_zero_le x0
  obtain ⟨b, rfl⟩ := Int.eq_ofNat_of_zero_le y0
  have := nib_table ⟨a, by omega⟩ ⟨b, by omega⟩ (List.all_eq_true.2 fun t ht => by
    have htag : isTag t := by simp [tags] at ht; exact ht
    exact decide_eq_true (h t htag))
  have h2 : a = b := congrArg (fun z : _root_.Fin 16 => z.val) this
  rw [h2]
/-- Once all is taken the marks are those that rounds end with. -/
theorem end_all (hp : Pf T F n) (hs_ : Sol T F m k) (h : Alls T F n m e) (htk : e.tk = e.td.length) : (∀ q t : Int, 0 ≤ q → q < (n : Int) → isTag t → has e q t = hs m q t) ∧ ∀ q : Nat, q < n → e.mq q = m.getD q 0 := by
  obtain ⟨G, i, c, t⟩ := h.iv
  have hK : ∀ z t, isTag t → has e z t = true → Kof e z t = true := fun z t ht hz => by
    unfold Kof
    rw [htk, List.take_length]
    exact decide_eq_true (h.td z t ht hz)
  have key : ∀ j : Nat, ∀ q t : Int, 0 ≤ q → q < (n : Int) → isTag t → hs (Mk T F j) q t = true → has e q t = true := by
    intro j
    induction j with
    | zero =>
      intro q t h0 h1 ht hh
      have : hs (Mk T F 0) q t = hb ((List.replicate T.lits.toNat (0 : Int)).getD q.toNat 0) t := rfl
      rw [this, zeros_at, hb_zero ht] at hh
      cases hh
    | succ j ih =>
      intro q t h0 h1 ht hh
      rw [Mk_succ, hs_round Mk_bys h0 (by rw [Mk_len hp]; exact h1) ht, Bool.or_eq_true] at hh
      rcases hh with hh | hh
      · exact ih q t h0 h1 ht hh
      · obtain ⟨a, rfl⟩ := Int.eq_ofNat_of_zero_le h0
        exact closed_all hp i c ‹Tie T F (Kof e) G› hK ih (by omega) ht hh
  have same : ∀ q t : Int, 0 ≤ q → q < (n : Int) → isTag t → has e q t = hs m q t := fun q t h0 h1 ht => by
    rw [Bool.eq_iff_iff]
    exact ⟨i.s.mm q t h0 h1 ht, fun hh => key k q t h0 h1 ht (by rw [hs_.1] at hh; exact hh)⟩
  refine ⟨same, fun q hq => nib_ext (i.y q).1 (h.sm q) ?_ ?_ fun t ht => ?_⟩
  · exact (sol_bys hs_ q).1
  · rw [hs_.1]; exact Mk_small q
  · have := same q t (by omega) (by omega) ht
    unfold has hs at this
    rw [Int.toNat_natCast] at this
    exact this
/-- As a row of memory. -/
theorem end_row (hp : Pf T F n) (hs_ : Sol T F m k) (h : Alls T F n m e) (htk : e.tk = e.td.length) : rowU n e.mq = m.map (Value.int .u8) := by
  have hl := sol_len hp hs_
  apply List.ext_getElem?
  intro q
  unfold rowU
  rw [List.getElem?_map, List.getElem?_map]
  by_cases hq : q < n
  · rw [List.getElem?_range hq, List.getElem?_eq_getElem (by omega)]
    have := (end_all hp hs_ h htk).2 q hq
    rw [List.getD_eq_getElem?_getD, List.getElem?_eq_getElem (by omega)] at this
    show some (Value.int .u8 (e.mq q)) = some (Value.int .u8 m[q])
    rw [this]
    rfl
  · rw [List.getElem?_eq_none (by simpa using hq), List.getElem?_eq_none (by omega)]
    rfl
end
end Go.Proofs.YthifoamnmhlghaaGreat.Fa
