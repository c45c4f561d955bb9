/- Of two schemas at most one prevails, plainly. -/
import Derived.Test.YtbdlgglbcaoakaaGreatPrHdn
namespace Go.Proofs.YtbdlgglbcaoakaaGreat
open Go.RowKit Go.Shelf Go.Maps Go.WideMaps

theorem keyE_inj2 {a b : Bytes × Bytes} (ha1 : a.1.length ≤ maxLen) (ha2 : a.2.length ≤ maxLen) (hb1 : b.1.length ≤ maxLen) (hb2 : b.2.length ≤ maxLen) (h : keyE a = keyE b) : a = b := by
  have e1 := keyE_mk ha1 ha2
  have e2 := keyE_mk hb1 hb2
  rw [← h] at e2
  have e3 := lawE.inj e1 e2
  unfold str at e3
  simp only [Value.agg.injEq] at e3
  have e4 := congrArg Array.toList e3
  simp only [List.cons.injEq, and_true] at e4
  obtain ⟨h1, h2⟩ := e4
  simp at h1 h2
  exact Prod.ext h1 h2
theorem exB_eq (l : List (Bytes × Bytes)) (x : Bytes × Bytes) : exB l x = l.any (fun p => keyE p == keyE x) := by
  unfold exB exD
  have : l.foldl (fun D p => D.put (.string (keyE p)) (.agg [])) (DataW.map ([] : List (Lit × DataW Unit))) = setOf (.agg []) (l.map fun p => .string (keyE p)) := by
    unfold setOf; rw [List.foldl_map]
  rw [this, has_setOf _ _ _ (by intro y hy; obtain ⟨p, _, rfl⟩ := List.mem_map.1 hy; trivial), List.any_map]
  rfl
theorem exB_iff {l : List (Bytes × Bytes)} {x : Bytes × Bytes} (h1 : x.1.length ≤ maxLen) (h2 : x.2.length ≤ maxLen) (hl : ∀ p ∈ l, p.1.length ≤ maxLen ∧ p.2.length ≤ maxLen) : exB l x = decide (x ∈ l) := by
  rw [exB_eq]
  by_cases hm : x ∈ l
  · rw [decide_eq_true hm]
    exact List.any_eq_true.2 ⟨x, hm, by simp⟩
  · rw [decide_eq_false hm]
    rw [List.any_eq_false]
    intro p hp he
    have := keyE_inj2 (hl p hp).1 (hl p hp).2 h1 h2 (by simpa using he)
    exact hm (this ▸ hp)
theorem one_plain (ab ba : Bool) (ra rb da db : Int) : ((!(wgM ab ba ra rb da db != 0) || !(wgM ba ab rb ra db da != 0) || ab && ba) && (!ab || (wgM ab ba ra rb da db != 0)) && (!ba || (wgM ba ab rb ra db da != 0))) = true := by
  unfold wgM
  cases ab <;> cases ba
  · simp only [Bool.false_eq_true, if_false]
    by_cases h1 : rb < ra
    · have h2 : ¬ ra < rb := by omega
      have h3 : ¬ (rb = ra ∧ da < db) := by omega
      simp [h1, h2, h3]
    · by_cases h2 : ra < rb
      · have h3 : ¬ (ra = rb ∧ db < da) := by omega
        simp [h1, h2, h3]
      · have h4 : ra = rb := by omega
        subst h4
        by_cases h5 : db < da
        · have : ¬ da < db := by omega
          simp [this]
        · simp [h5]
  · rfl
  · rfl
  · rfl
theorem prev_err {S : StatM} {a b : Int} (h : (prevM S a b).2 ≠ 0 ∨ (prevM S b a).2 ≠ 0) : (prevM S a b).1 = false ∧ (prevM S b a).1 = false := by
  unfold prevM at *
  by_cases h1 : (checkM S).1 = 0
  · simp only [h1, if_true] at *
    cases ha : Pr.inN a S.rules.length <;> cases hb : Pr.inN b S.rules.length <;> simp [ha, hb] at h ⊢
  · simp [h1]
theorem prev_ok {S : StatM} {a b : Int} (h1 : (prevM S a b).2 = 0) : ∃ i j : Nat, a = i ∧ b = j ∧ i < S.rules.length ∧ j < S.rules.length ∧ (checkM S).1 = 0 ∧ (prevM S a b).1 = (S.weighM i j != 0) ∧ (prevM S b a).1 = (S.weighM j i != 0) := by
  unfold prevM at *
  by_cases hc : (checkM S).1 = 0
  · simp only [hc, if_true] at *
    by_cases ha : Pr.inN a S.rules.length = true
    · by_cases hb : Pr.inN b S.rules.length = true
      · obtain ⟨a0, a1⟩ := Pr.inN_iff.1 ha
        obtain ⟨b0, b1⟩ := Pr.inN_iff.1 hb
        obtain ⟨i, rfl⟩ := Int.eq_ofNat_of_zero_le a0
        obtain ⟨j, rfl⟩ := Int.eq_ofNat_of_zero_le b0
        refine ⟨i, j, rfl, rfl, by omega, by omega, trivial, ?_, ?_⟩ <;> simp [ha, hb]
      · simp [ha, hb] at h1
    · simp [ha] at h1
  · simp [hc] at h1
end Go.Proofs.YtbdlgglbcaoakaaGreat
/- A source's rank, plainly: by the map and by the list. -/
namespace Go.Proofs.YtbdlgglbcaoakaaGreat
open Go.RowKit Go.Shelf Go.Maps Go.WideMaps

theorem rkD_isMap (l : List (Bytes × Int)) : IsMap (rkD l) := by
  unfold rkD
  have : ∀ (l : List (Bytes × Int)) (D : DataW Unit), IsMap D → IsMap (l.foldl (fun D p => D.put (.string p.1) (.lit (.int .i64 p.2))) D) := by
    intro l
    induction l with
    | nil => intro D h; exact h
    | cons p r ih => intro D h; exact ih _ (h.put _ _)
  exact this l _ isMap_empty
theorem rkV_snoc (l : List (Bytes × Int)) (p : Bytes × Int) (s : Bytes) : rkV (l ++ [p]) s = if p.1 = s then p.2 else rkV l s := by
  by_cases h : p.1 = s
  · rw [if_pos h, ← h]
    unfold rkV
    rw [rkD_snoc, atKey_put_same (rkD_isMap l) (show WideAt.IsKeyLit (.string p.1) from trivial)]
  · rw [if_neg h]
    unfold rkV
    rw [rkD_snoc, atKey_put_other (fun e => h (by injection e with e; exact e.symm))]
theorem rkV_take {l : List (Bytes × Int)} (hd : ∀ (i j : Nat) (p q : Bytes × Int), l[i]? = some p → l[j]? = some q → p.1 = q.1 → i = j) {k : Nat} {p : Bytes × Int} (hk : l[k]? = some p) : ∀ n, k < n → n ≤ l.length → rkV (l.take n) p.1 = p.2
  | 0, h, _ => by omega
  | n + 1, h, hl => by
    obtain ⟨q, hq⟩ : ∃ q, l[n]? = some q := ⟨_, List.getElem?_eq_getElem (by omega)⟩
    have e : l.take (n + 1) = l.take n ++ [q] := by rw [List.take_add_one, hq]; rfl
    rw [e, rkV_snoc]
    by_cases hkn : k = n
    · subst hkn
      rw [hk] at hq
      cases hq
      rw [if_pos rfl]
    · rw [if_neg (fun he => hkn (hd k n p q hk hq he.symm))]
      exact rkV_take hd hk n (by omega) (by omega)
theorem rkV_none {l : List (Bytes × Int)} {s : Bytes} (hs : ∀ p ∈ l, p.1 ≠ s) : ∀ n, n ≤ l.length → rkV (l.take n) s = 0
  | 0, _ => rfl
  | n + 1, hl => by
    obtain ⟨q, hq⟩ : ∃ q, l[n]? = some q := ⟨_, List.getElem?_eq_getElem (by omega)⟩
    have e : l.take (n + 1) = l.take n ++ [q] := by rw [List.take_add_one, hq]; rfl
    rw [e, rkV_snoc, if_neg (hs q (List.mem_of_getElem? hq))]
    exact rkV_none hs n (by omega)
theorem rkV_at {l : List (Bytes × Int)} (hd : ∀ (i j : Nat) (p q : Bytes × Int), l[i]? = some p → l[j]? = some q → p.1 = q.1 → i = j) {k : Nat} {p : Bytes × Int} (hk : l[k]? = some p) : rkV l p.1 = p.2 := by
  have h := rkV_take hd hk l.length (List.getElem?_eq_some_iff.1 hk).1 (Nat.le_refl _)
  rw [List.take_length] at h
  exact h
theorem rkV_out {l : List (Bytes × Int)} {s : Bytes} (hs : ∀ p ∈ l, p.1 ≠ s) : rkV l s = 0 := by
  have h := rkV_none hs l.length (Nat.le_refl _)
  rw [List.take_length] at h
  exact h
/-- The sources of a statute that holds have names of their own. -/
theorem ok_names {S : StatM} (h : (checkM S).1 = 0) : ∀ (i j : Nat) (p q : Bytes × Int), S.sources[i]? = some p → S.sources[j]? = some q → p.1 = q.1 → i = j := by
  obtain ⟨_, h2⟩ := check_ok.1 h
  have key : ∀ (n : Nat) (p : Bytes × Int), S.sources[n]? = some p → (posB S.srcs p.1 : Int) = n := by
    intro n p hn
    have hm : sourceM S.srcs n p ∈ S.items := by
      unfold StatM.items
      have : sourceM S.srcs n p ∈ S.sources.mapIdx (sourceM S.srcs) := List.mem_iff_getElem?.2 ⟨n, by simp [hn]⟩
      simp only [List.mem_append]
      exact .inl (.inl (.inl (.inr this)))
    have := h2 _ hm
    unfold sourceM calledM at this
    cases hc : isNameB p.1 with
    | false => rw [hc] at this; cases this
    | true =>
      by_cases hp : (posB S.srcs p.1 : Int) = (n : Int)
      · exact hp
      · rw [hc, decide_eq_false hp] at this; cases this
  intro i j p q hi hj he
  have a := key i p hi
  have b := key j q hj
  rw [he] at a
  omega
/-- What the page says of two schemas. -/
def refP (ab ba : Bool) (a b : Nat) (ra rb da db : Int) : Bool := if ab then true else if decide (a = b) || ba then false else if ra = rb then decide (db < da) else decide (rb < ra)
theorem ref_eq (ab ba : Bool) (a b : Nat) (ra rb da db : Int) (hab : a = b → ra = rb ∧ da = db) : refP ab ba a b ra rb da db = (wgM ab ba ra rb da db != 0) := by
  unfold refP wgM
  cases ab
  · cases ba
    · by_cases e : a = b
      · obtain ⟨rfl, rfl⟩ := hab e
        simp [e]
      · simp only [e, decide_false, Bool.or_false, Bool.false_eq_true, if_false]
        by_cases h1 : rb < ra
        · have : ra ≠ rb := by omega
          simp [h1, this]
        · by_cases h2 : ra = rb
          · subst h2
            by_cases h3 : db < da <;> simp [h3]
          · simp [h1, h2]
    · simp
  · simp
end Go.Proofs.YtbdlgglbcaoakaaGreat
/- The page's declared and rank. -/
namespace Go.Proofs.YtbdlgglbcaoakaaGreat
open Go.RowKit Go.Shelf Go.Maps Go.WideMaps
section
variable {S : StatM} {st : St9} {w : World}
set_option maxRecDepth 100000 in
set_option maxHeartbeats 12800000 in
theorem rdecl_any (h : SR w.heap.size w S st) {a b : Nat} {x y : RuleM} (hx : S.rules[a]? = some x) (hy : S.rules[b]? = some y) :
    Calls Tryz.prog 22 #[st.agg, .int .i64 a, .int .i64 b] w fun e w' => e = .returned (.bool (decide ((x.name, y.name) ∈ S.excepts))) ∧ Below w.heap.size w w' := by
  obtain ⟨tt, ht⟩ := h.title
  obtain ⟨a1, b1, f1, _, l1⟩ := h.kinds.form
  obtain ⟨a2, b2, f2, _, l2⟩ := h.members.form
  obtain ⟨a3, b3, f3, _, l3⟩ := h.preds.form
  obtain ⟨a4, b4, f4, _, l4⟩ := h.classes.form
  obtain ⟨a5, b5, f5, _, l5⟩ := h.sources.form
  obtain ⟨a6, b6, f6, _, l6⟩ := h.rules.form
  obtain ⟨a7, b7, f7, _, l7⟩ := h.excepts.form
  obtain ⟨a8, b8, f8, _, l8⟩ := h.totals.form
  obtain ⟨s0, s1, s2, s3, s4, s5, s6, s7, s8⟩ := st
  simp only at ht f1 f2 f3 f4 f5 f6 f7 f8
  subst ht f1 f2 f3 f4 f5 f6 f7 f8
  have hA : Below w.heap.size w (w.alloc (.cells #[.string tt, .slice a1 S.kinds.length b1, .slice a2 S.members.length b2, .slice a3 S.preds.length b3, .slice a4 S.classes.length b4, .slice a5 S.sources.length b5, .slice a6 S.rules.length b6, .slice a7 S.excepts.length b7, .slice a8 S.totals.length b8] 31)) := (Below.refl _ w).alloc (Nat.le_refl _) _
  have hbx := heap_alloc_new w (.cells #[.string tt, .slice a1 S.kinds.length b1, .slice a2 S.members.length b2, .slice a3 S.preds.length b3, .slice a4 S.classes.length b4, .slice a5 S.sources.length b5, .slice a6 S.rules.length b6, .slice a7 S.excepts.length b7, .slice a8 S.totals.length b8] 31)
  have ha : a < S.rules.length := (List.getElem?_eq_some_iff.1 hx).1
  have hb : b < S.rules.length := (List.getElem?_eq_some_iff.1 hy).1
  have hS3 := h.up hA
  obtain ⟨g1, o1, _, _, _, _, rfl, hg1, p0, _, _, _, _, _, _, _, _, _, _, hn1, _⟩ := at_R hS3.rules hx
  obtain ⟨g2, o2, _, _, _, _, e2, hg2, q0, _, _, _, _, _, _, _, _, _, _, hn2, _⟩ := at_R hS3.rules hy
  simp only [Option.some.injEq, Addr.mk.injEq, and_true] at e2
  obtain ⟨rfl, rfl⟩ := e2
  have HEX := hide hS3.excepts
  simp only at HEX
  unfold str at p0 q0
  have HBX := hide hbx
  obtain ⟨nx, hnx⟩ : ∃ n, S.excepts.length = n := ⟨_, rfl⟩
  have HNX := hide hnx
  unfold St9.agg
  simp only
  have HA := hide hA
  clear h hx hy hS3 hA hbx hnx
  go_enter Tryz.func22, Tryz.ntmps22
  go_wp2_with fail
  generalize w.alloc (.cells #[.string tt, .slice a1 S.kinds.length b1, .slice a2 S.members.length b2, .slice a3 S.preds.length b3, .slice a4 S.classes.length b4, .slice a5 S.sources.length b5, .slice (some ⟨g1, o1, none⟩) S.rules.length b6, .slice a7 S.excepts.length b7, .slice a8 S.totals.length b8] 31) = w3 at *
  have k6 := cell_of_row w3 w.heap.size 6 _ _ _ HBX.out
  have k7 := cell_of_row w3 w.heap.size 7 _ _ _ HBX.out
  simp at k6 k7
  rw [HNX.out] at k7 HEX l7
  obtain ⟨nr, hnr⟩ : ∃ n, S.rules.length = n := ⟨_, rfl⟩
  rw [hnr] at k6 ha hb l6
  clear hnr
  have HBQ : Hid (∀ n, Below w.heap.size w (w3.drewN n)) := hide fun n => HA.out.trans ((below_drewN w3 n).mono HA.out.size)
  go_loopw [7] (fun x1 wr => ∃ (i q : Nat), i ≤ nx ∧ x1 = .int .i64 i ∧ wr = w3.drewN q ∧ Hid ((x.name, y.name) ∉ S.excepts.take i)) (fun x1 _ => nx - (intOf x1).toNat)
  case atStart => exact ⟨0, 0, by omega, rfl, rfl, hide (by simp)⟩
  case round =>
    obtain ⟨i, q, hi, rfl, rfl, HN⟩ := hrel
    by_cases hlt : i < nx
    · obtain ⟨p, hp⟩ : ∃ p, S.excepts[i]? = some p := ⟨_, List.getElem?_eq_getElem (by rw [HNX.out]; exact hlt)⟩
      obtain ⟨g, o, rfl, hg, c1, c2, hp1, hp2⟩ := at_M HEX.out hp
      have HT : Hid (S.excepts.take (i + 1) = S.excepts.take i ++ [p]) := hide (by rw [List.take_add_one, hp]; rfl)
      have HM := hide (List.mem_of_getElem? hp)
      unfold str at c1 c2
      clear hp
      obtain ⟨P1, hP1⟩ : ∃ P : ByteArray, (⟨p.1.toArray⟩ : ByteArray) = P := ⟨_, rfl⟩
      obtain ⟨P2, hP2⟩ : ∃ P : ByteArray, (⟨p.2.toArray⟩ : ByteArray) = P := ⟨_, rfl⟩
      obtain ⟨X, hX⟩ : ∃ P : ByteArray, (⟨x.name.toArray⟩ : ByteArray) = P := ⟨_, rfl⟩
      obtain ⟨Y, hY⟩ : ∃ P : ByteArray, (⟨y.name.toArray⟩ : ByteArray) = P := ⟨_, rfl⟩
      have E1 : (P1.toList == X.toList) = decide (p.1 = x.name) := by rw [← hP1, ← hX]; apply Bool.eq_iff_iff.2; simp
      have E4 : (P2.toList == Y.toList) = decide (p.2 = y.name) := by rw [← hP2, ← hY]; apply Bool.eq_iff_iff.2; simp
      rw [hP1] at c1
      rw [hP2] at c2
      rw [hX] at p0
      rw [hY] at q0
      clear hP1 hP2 hX hY
      by_cases d1 : p.1 = x.name
      · rw [decide_eq_true d1] at E1
        by_cases d4 : p.2 = y.name
        · rw [decide_eq_true d4] at E4
          have HR : Hid ((x.name, y.name) ∈ S.excepts) := hide (by rw [← d1, ← d4]; exact HM.out)
          clear d1 d4
          go_upto_region 4 with fail
          go_quiet (fail)
          rw [World.drewN_drewN]
          go_wp2_with fail
          go_ret
          exact ⟨by rw [decide_eq_true HR.out]; rfl, HBQ.out _⟩
        · rw [decide_eq_false d4] at E4
          have HR : Hid ((x.name, y.name) ∉ S.excepts.take (i + 1)) := hide (by rw [HT.out, List.mem_append, List.mem_singleton]; exact fun hh => hh.elim (fun h => HN.out h) (fun h => d4 (by rw [← h])))
          clear d1 d4
          go_upto_region 4 with fail
          go_quiet (fail)
          rw [World.drewN_drewN]
          go_wp2_with fail
          go_roundw
          case rel => exact ⟨i + 1, q + nq, by omega, by go_num, rfl, HR⟩
          case measure => simp [intOf]; omega
      · rw [decide_eq_false d1] at E1
        have HR : Hid ((x.name, y.name) ∉ S.excepts.take (i + 1)) := hide (by rw [HT.out, List.mem_append, List.mem_singleton]; exact fun hh => hh.elim (fun h => HN.out h) (fun h => d1 (by rw [← h])))
        clear d1 E4
        go_upto_region 4 with fail
        go_quiet (fail)
        rw [World.drewN_drewN]
        go_wp2_with fail
        go_roundw
        case rel => exact ⟨i + 1, q + nq, by omega, by go_num, rfl, HR⟩
        case measure => simp [intOf]; omega
    · have HR : Hid ((x.name, y.name) ∉ S.excepts) := hide (by have := HN.out; rw [List.take_of_length_le (by rw [HNX.out]; omega)] at this; exact this)
      go_wp2_with fail
      go_ret
      exact ⟨by rw [decide_eq_false HR.out]; rfl, HBQ.out _⟩
end
end Go.Proofs.YtbdlgglbcaoakaaGreat
/- The page's rank. -/
namespace Go.Proofs.YtbdlgglbcaoakaaGreat
open Go.RowKit Go.Shelf Go.Maps Go.WideMaps
section
variable {S : StatM} {st : St9} {w : World}
set_option maxRecDepth 100000 in
set_option maxHeartbeats 12800000 in
theorem rrank_any (h : SR w.heap.size w S st) (hd : ∀ (i j : Nat) (p q : Bytes × Int), S.sources[i]? = some p → S.sources[j]? = some q → p.1 = q.1 → i = j) {a : Nat} {x : RuleM} (hx : S.rules[a]? = some x) :
    Calls Tryz.prog 23 #[st.agg, .int .i64 a] w fun e w' => e = .returned (.int .i64 (rkV S.sources x.source)) ∧ Below w.heap.size w w' := by
  obtain ⟨tt, ht⟩ := h.title
  obtain ⟨a1, b1, f1, _, l1⟩ := h.kinds.form
  obtain ⟨a2, b2, f2, _, l2⟩ := h.members.form
  obtain ⟨a3, b3, f3, _, l3⟩ := h.preds.form
  obtain ⟨a4, b4, f4, _, l4⟩ := h.classes.form
  obtain ⟨a5, b5, f5, _, l5⟩ := h.sources.form
  obtain ⟨a6, b6, f6, _, l6⟩ := h.rules.form
  obtain ⟨a7, b7, f7, _, l7⟩ := h.excepts.form
  obtain ⟨a8, b8, f8, _, l8⟩ := h.totals.form
  obtain ⟨s0, s1, s2, s3, s4, s5, s6, s7, s8⟩ := st
  simp only at ht f1 f2 f3 f4 f5 f6 f7 f8
  subst ht f1 f2 f3 f4 f5 f6 f7 f8
  have hA : Below w.heap.size w (w.alloc (.cells #[.string tt, .slice a1 S.kinds.length b1, .slice a2 S.members.length b2, .slice a3 S.preds.length b3, .slice a4 S.classes.length b4, .slice a5 S.sources.length b5, .slice a6 S.rules.length b6, .slice a7 S.excepts.length b7, .slice a8 S.totals.length b8] 31)) := (Below.refl _ w).alloc (Nat.le_refl _) _
  have hbx := heap_alloc_new w (.cells #[.string tt, .slice a1 S.kinds.length b1, .slice a2 S.members.length b2, .slice a3 S.preds.length b3, .slice a4 S.classes.length b4, .slice a5 S.sources.length b5, .slice a6 S.rules.length b6, .slice a7 S.excepts.length b7, .slice a8 S.totals.length b8] 31)
  have ha : a < S.rules.length := (List.getElem?_eq_some_iff.1 hx).1
  have hS3 := h.up hA
  obtain ⟨g1, o1, _, _, _, _, rfl, hg1, _, p0, _, _, _, _, _, _, _, _, _, hn1, hn2, _⟩ := at_R hS3.rules hx
  have HEX := hide hS3.sources
  simp only at HEX
  unfold str at p0
  have HBX := hide hbx
  obtain ⟨nx, hnx⟩ : ∃ n, S.sources.length = n := ⟨_, rfl⟩
  have HNX := hide hnx
  unfold St9.agg
  simp only
  have HA := hide hA
  have HD := hide hd
  clear hd
  clear h hx hS3 hA hbx hnx
  go_enter Tryz.func23, Tryz.ntmps23
  go_wp2_with fail
  generalize w.alloc (.cells #[.string tt, .slice a1 S.kinds.length b1, .slice a2 S.members.length b2, .slice a3 S.preds.length b3, .slice a4 S.classes.length b4, .slice a5 S.sources.length b5, .slice (some ⟨g1, o1, none⟩) S.rules.length b6, .slice a7 S.excepts.length b7, .slice a8 S.totals.length b8] 31) = w3 at *
  have k6 := cell_of_row w3 w.heap.size 6 _ _ _ HBX.out
  have k7 := cell_of_row w3 w.heap.size 5 _ _ _ HBX.out
  simp at k6 k7
  rw [HNX.out] at k7 HEX l5
  obtain ⟨nr, hnr⟩ : ∃ n, S.rules.length = n := ⟨_, rfl⟩
  rw [hnr] at k6 ha l6
  clear hnr
  have HBQ : Hid (∀ n, Below w.heap.size w (w3.drewN n)) := hide fun n => HA.out.trans ((below_drewN w3 n).mono HA.out.size)
  go_loopw [5] (fun x1 wr => ∃ (i q : Nat), i ≤ nx ∧ x1 = .int .i64 i ∧ wr = w3.drewN q ∧ Hid (∀ p ∈ S.sources.take i, p.1 ≠ x.source)) (fun x1 _ => nx - (intOf x1).toNat)
  case atStart => exact ⟨0, 0, by omega, rfl, rfl, hide (by simp)⟩
  case round =>
    obtain ⟨i, q, hi, rfl, rfl, HN⟩ := hrel
    by_cases hlt : i < nx
    · obtain ⟨p, hp⟩ : ∃ p, S.sources[i]? = some p := ⟨_, List.getElem?_eq_getElem (by rw [HNX.out]; exact hlt)⟩
      obtain ⟨g, o, rfl, hg, c1, c2, hp1⟩ := at_Src HEX.out hp
      have HT : Hid (S.sources.take (i + 1) = S.sources.take i ++ [p]) := hide (by rw [List.take_add_one, hp]; rfl)
      have HM := hide (rkV_at HD.out hp)
      unfold str at c1
      clear hp
      obtain ⟨P1, hP1⟩ : ∃ P : ByteArray, (⟨p.1.toArray⟩ : ByteArray) = P := ⟨_, rfl⟩
      obtain ⟨X, hX⟩ : ∃ P : ByteArray, (⟨x.source.toArray⟩ : ByteArray) = P := ⟨_, rfl⟩
      have E1 : (P1.toList == X.toList) = decide (p.1 = x.source) := by rw [← hP1, ← hX]; apply Bool.eq_iff_iff.2; simp
      rw [hP1] at c1
      rw [hX] at p0
      clear hP1 hX
      by_cases d1 : p.1 = x.source
      · rw [decide_eq_true d1] at E1
        have HR : Hid (rkV S.sources x.source = p.2) := hide (by rw [← d1]; exact HM.out)
        clear d1
        go_wp2_with fail
        go_quiet (fail)
        rw [World.drewN_drewN]
        go_wp2_with fail
        go_ret
        exact ⟨by rw [HR.out]; rfl, HBQ.out _⟩
      · rw [decide_eq_false d1] at E1
        have HR : Hid (∀ p ∈ S.sources.take (i + 1), p.1 ≠ x.source) := hide (by
          rw [HT.out]
          intro p' hp' he
          rcases List.mem_append.1 hp' with h | h
          · exact HN.out p' h he
          · rw [List.mem_singleton.1 h] at he
            exact d1 he)
        clear d1
        go_wp2_with fail
        go_quiet (fail)
        rw [World.drewN_drewN]
        go_wp2_with fail
        go_roundw
        case rel => exact ⟨i + 1, q + nq, by omega, by go_num, rfl, HR⟩
        case measure => simp [intOf]; omega
    · have HR : Hid (rkV S.sources x.source = 0) := hide (rkV_out (by have := HN.out; rw [List.take_of_length_le (by rw [HNX.out]; omega)] at this; exact this))
      go_wp2_with fail
      go_ret
      exact ⟨by rw [HR.out]; rfl, HBQ.out _⟩
end
end Go.Proofs.YtbdlgglbcaoakaaGreat
