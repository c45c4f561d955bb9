/- The page's Vars. By program (tools/gen8/rvar9.py). -/
import Derived.Test.YtfnobccminhjpaaGreatSeen9
import Derived.Test.YtfnobccminhjpaaGreatBkC9
import Derived.Test.YtfnobccminhjpaaGreatVars9
import Derived.Test.YtfnobccminhjpaaGreatInj9
import Derived.Deep.AppendLies
namespace Go.Proofs.YtfnobccminhjpaaGreat
open Go.RowKit Go.Shelf Go.Maps Go.WideMaps
open Rg

/-- What stands ahead of the page's loop over what is seen. -/
structure Vb (w : World) (V : Nat) (na : Option Addr) (nc : Nat) (ka : Option Addr) (kc : Nat) (lv : Value) (N : List Bytes) (Ks : List Int) (sa : Option Addr) (sc : Nat) (sl : List Bytes) (X : World) : Prop where
  low : Below w.heap.size w X
  box : X.heap[V]? = some (.cells #[.slice na N.length nc, .slice ka Ks.length kc, lv] 104 (0, 0))
  rowN : X.ownsRow 0 9 1 (.slice na N.length nc) N.length (strs N)
  rowK : X.ownsRow 0 3 1 (.slice ka Ks.length kc) Ks.length (ints Ks)
  rowS : X.ownsRow 0 9 1 (.slice sa sl.length sc) sl.length (strs sl)
theorem Vb.keep {w : World} {V : Nat} {na : Option Addr} {nc : Nat} {ka : Option Addr} {kc : Nat} {lv : Value} {N : List Bytes} {Ks : List Int} {sa : Option Addr} {sc : Nat} {sl : List Bytes} {X Y : World} (h : Vb w V na nc ka kc lv N Ks sa sc sl X) (hb : Below X.heap.size X Y) : Vb w V na nc ka kc lv N Ks sa sc sl Y :=
  ⟨h.low.trans (hb.mono h.low.size), (hb.block _ (loc_lt h.box)).trans h.box, owns_keep h.rowN fun g hg => hb.block g (owns_lt h.rowN hg), owns_keep h.rowK fun g hg => hb.block g (owns_lt h.rowK hg), owns_keep h.rowS fun g hg => hb.block g (owns_lt h.rowS hg)⟩
/-- Behind so many of what is seen. -/
structure Vr (Ks0 : Bytes → Int) (X : World) (nm : List Bytes) (n : Nat) (v1 v2 : Value) (wr : World) : Prop where
  low : Below X.heap.size X wr
  r1 : wr.ownsRow X.heap.size 9 1 v1 n (strs nm)
  r2 : wr.ownsRow X.heap.size 3 1 v2 n (ints (nm.map Ks0))
  len : nm.length = n
theorem Vr.step {f : Bytes → Int} {X : World} {nm : List Bytes} {n : Nat} {v1 : Value} {a9 : Option Addr} {c9 : Nat} {w4 W16 W : World} {gg cap : Nat} {s : Bytes} (low4 : Below X.heap.size X w4) (r1 : w4.ownsRow X.heap.size 9 1 v1 (n + 1) (strs (nm ++ [s]))) (r2 : w4.ownsRow X.heap.size 3 1 (.slice a9 n c9) n (ints (nm.map f))) (len : nm.length = n) (hb : Below w4.heap.size w4 W16)
    (hown : W.ownsRow X.heap.size 3 1 (.slice (some ⟨gg, 0, none⟩) (n + 1) cap) (n + 1) (ints (nm.map f) ++ [.int .i64 (f s)])) (hg : ((Value.slice a9 n c9).ownBlock = some gg ∧ W16.grownBy W (some gg)) ∨ (gg = W16.heap.size ∧ W16.grownBy W none)) : Vr f X (nm ++ [s]) (n + 1) v1 (.slice (some ⟨gg, 0, none⟩) (n + 1) cap) W := by
  have hf : Fr (fun k => X.heap.size ≤ k) W16 W := by
    rcases hg with ⟨h1, h2⟩ | ⟨_, h2⟩
    · exact .of_grown h2 fun k e => by cases e; exact (r2.lt _ h1).1
    · exact .of_grown h2 fun k e => by cases e
  have hs := hb.size
  have hl := low4.size
  have low6 := low4.trans (hb.mono hl)
  refine ⟨low6.trans (hf.below fun k hk => ⟨by omega, by omega⟩), owns_keep r1 fun g hg1 => ?_, ?_, by simp [len]⟩
  · have hgl := owns_lt r1 hg1
    rw [← hb.block g hgl]
    rcases hg with ⟨h1, h2⟩ | ⟨_, h2⟩
    · refine h2.block g (by omega) fun e => ?_
      exact own_ne2 (owns_down r2 (Nat.zero_le _)) (owns_down r1 (Nat.zero_le _)) (by decide) hg1 (by rw [h1, e])
    · exact h2.block g (by omega) (by simp)
  · have e : ints ((nm ++ [s]).map f) = ints (nm.map f) ++ [.int .i64 (f s)] := by unfold ints; simp
    rw [e]
    exact hown
/-- Another row of the call's own grows beside. -/
theorem Vr.name {f : Bytes → Int} {X : World} {nm : List Bytes} {n : Nat} {v1 v2 : Value} {wr w4 : World} {ob : Obj} {g4 : Nat} (h : Vr f X nm n v1 v2 wr) (hg : (v1.ownBlock = some g4 ∧ (wr.alloc ob).grownBy w4 (some g4)) ∨ (g4 = wr.heap.size + 1 ∧ (wr.alloc ob).grownBy w4 none)) : Below X.heap.size X w4 ∧ w4.ownsRow X.heap.size 3 1 v2 n (ints (nm.map f)) := by
  have hf : Fr (fun k => X.heap.size ≤ k) wr w4 := grown_fr rfl hg fun g e => (h.r1.lt g e).1
  have hl := h.low.size
  refine ⟨h.low.trans (hf.below fun k hk => ⟨by omega, by omega⟩), owns_keep h.r2 fun g hg2 => ?_⟩
  exact grown_old rfl hg (owns_lt h.r2 hg2) (own_ne2 (owns_down h.r1 (Nat.zero_le _)) (owns_down h.r2 (Nat.zero_le _)) (by decide) hg2)
/-- The region's values that do not hang on its order. -/
def tab16 (V i n : Nat) (a9 : Option Addr) (c9 : Nat) (kvv nvv svv : Value) (sg so kg ko : Nat) (s : Bytes) (pos : Nat) (kd : Int) : Nat → Option (Nat × Value)
  | 0 => some (70, .slice a9 n c9)
  | 1 => some (71, ptr V)
  | 2 => some (72, ptr V)
  | 3 => some (73, .pointer (some ⟨V, 1, none⟩))
  | 4 => some (74, kvv)
  | 5 => some (75, ptr V)
  | 6 => some (76, ptr V)
  | 7 => some (77, ptr V)
  | 8 => some (78, nvv)
  | 9 => some (79, svv)
  | 10 => some (80, .int .i64 i)
  | 11 => some (81, .pointer (some ⟨sg, so + i, none⟩))
  | 12 => some (82, .string ⟨s.toArray⟩)
  | 13 => some (83, .int .i64 pos)
  | 14 => some (84, .pointer (some ⟨kg, ko + pos, none⟩))
  | 15 => some (85, .int .i64 kd)
  | _ => none
def A16 (w4 : World) (nv : Value) (kd : Int) (L : Nat → Bool) (σ : Nat → Value) (W : World) : Prop :=
  Below w4.drew.heap.size w4.drew W ∧ σ 12 = nv ∧ (L 16 = true → ∃ q, σ 86 = .slice (some ⟨q, 0, none⟩) 1 1 ∧ W.heap[q]? = some (.cells #[.int .i64 kd] 3 (0, 0)))
def B16 (X w4 : World) (n : Nat) (nv : Value) (xs : List Value) (kd : Int) (L : Nat → Bool) (σ : Nat → Value) (W : World) : Prop :=
  ∃ gg cap W16, Below w4.drew.heap.size w4.drew W16 ∧ W.ownsRow X.heap.size 3 1 (.slice (some ⟨gg, 0, none⟩) (n + 1) cap) (n + 1) (xs ++ [.int .i64 kd]) ∧ ((nv.ownBlock = some gg ∧ W16.grownBy W (some gg)) ∨ (gg = W16.heap.size ∧ W16.grownBy W none)) ∧ σ 87 = .slice (some ⟨gg, 0, none⟩) (n + 1) cap ∧ (L 18 = true → σ 12 = .slice (some ⟨gg, 0, none⟩) (n + 1) cap)
theorem A16.go {w4 : World} {nv : Value} {kd : Int} {L L' : Nat → Bool} {σ σ' : Nat → Value} {W : World} (h : A16 w4 nv kd L σ W) (h16 : L' 16 = L 16) (e12 : σ' 12 = σ 12) (e86 : σ' 86 = σ 86) : A16 w4 nv kd L' σ' W :=
  ⟨h.1, by rw [e12]; exact h.2.1, fun e => by rw [e86]; exact h.2.2 (by rw [← h16]; exact e)⟩
theorem B16.go {X w4 : World} {n : Nat} {nv : Value} {xs : List Value} {kd : Int} {L L' : Nat → Bool} {σ σ' : Nat → Value} {W : World} (h : B16 X w4 n nv xs kd L σ W) (h18 : L' 18 = L 18) (e12 : σ' 12 = σ 12) (e87 : σ' 87 = σ 87) : B16 X w4 n nv xs kd L' σ' W := by
  obtain ⟨gg, cap, W16, h1, h2, h3, h4, h5⟩ := h
  exact ⟨gg, cap, W16, h1, h2, h3, by rw [e87]; exact h4, fun e => by rw [e12]; exact h5 (by rw [← h18]; exact e)⟩
theorem tab16_inj {V i n : Nat} {a9 : Option Addr} {c9 : Nat} {kvv nvv svv : Value} {sg so kg ko : Nat} {s : Bytes} {pos : Nat} {kd : Int} {j j' d : Nat} {v v' : Value} (h : tab16 V i n a9 c9 kvv nvv svv sg so kg ko s pos kd j = some (d, v)) (h' : tab16 V i n a9 c9 kvv nvv svv sg so kg ko s pos kd j' = some (d, v')) : j' = j := by
  unfold tab16 at h h'
  split at h <;> cases h <;> (split at h' <;> first | rfl | (cases h'))
theorem tab16_off {V i n : Nat} {a9 : Option Addr} {c9 : Nat} {kvv nvv svv : Value} {sg so kg ko : Nat} {s : Bytes} {pos : Nat} {kd : Int} {j d : Nat} {v : Value} (h : tab16 V i n a9 c9 kvv nvv svv sg so kg ko s pos kd j = some (d, v)) : d ≠ 86 ∧ d ≠ 87 ∧ d ≠ 12 := by
  unfold tab16 at h
  split at h <;> cases h <;> decide
theorem addN_len (l : List Bytes) (s : Bytes) : (addN l s).length ≤ l.length + 1 := by
  unfold addN
  split
  · simp
  · omega
theorem addF_len (l : List Bytes) : ∀ (sl : List Bytes), (sl.foldl addN l).length ≤ l.length + sl.length := by
  intro sl
  induction sl generalizing l with
  | nil => simp
  | cons s r ih =>
    have h1 := ih (addN l s)
    have h2 := addN_len l s
    simp only [List.foldl_cons, List.length_cons]
    omega
theorem rule_ok {S : StatM} (hall : AllOk S.items) {n : Nat} {t : RuleM} (hn : S.rules[n]? = some t) : ruleM S.ctx S.srcs S.heads n t = .ok () := by
  obtain ⟨q, hq⟩ := pre8_split S (k := 5) (by omega)
  rw [hq] at hall
  refine hall _ ?_
  have : ruleM S.ctx S.srcs S.heads n t ∈ grp S 5 := by
    show ruleM S.ctx S.srcs S.heads n t ∈ S.rules.mapIdx (ruleM S.ctx S.srcs S.heads)
    rw [List.mem_iff_getElem?]
    exact ⟨n, by rw [List.getElem?_mapIdx, hn]; rfl⟩
  simp [this]
theorem ownsRow_le9 {w : World} {b b' e k n : Nat} {u : Value} {xs : List Value} (h : w.ownsRow b e k u n xs) (hb : b' ≤ b) : w.ownsRow b' e k u n xs := owns_down h hb
theorem kind_mem {v : Scope} {s : Bytes} (h : s ∈ v.names) : kindAt v s ∈ v.kinds := by
  unfold kindAt
  have hp := pos_lt h
  have hl : v.names.length = v.kinds.length := by unfold Scope.names Scope.kinds; simp
  rw [List.getD_eq_getElem?_getD, List.getElem?_eq_getElem (by omega)]
  simp
theorem fold_sub : ∀ (r l : List Bytes) (x : Bytes), x ∈ l → x ∈ r.foldl addN l
  | [], _, _, h => h
  | y :: r, l, x, h => fold_sub r _ x (by unfold addN; split <;> simp [h])
theorem fold_in {s : Bytes} (hv : isVarB s = true) : ∀ (r l : List Bytes), s ∈ r → s ∈ r.foldl addN l
  | [], _, h => by simp at h
  | y :: r, l, h => by
    rcases List.mem_cons.1 h with e | e
    · subst e
      refine fold_sub r _ s ?_
      unfold addN
      split
      · simp
      · rename_i hn
        apply Classical.byContradiction
        intro hc
        exact hn ⟨hv, hc⟩
    · exact fold_in hv r _ e
set_option maxRecDepth 100000 in
set_option maxHeartbeats 12800000 in
theorem rvars_any {S : StatM} {st : St9} {w : World} (h : SR w.heap.size w S st) (k : Int) : Calls Tryz.prog 11 #[st.agg, .int .i64 k] w fun e w' => Ex w (checkM S).1 (varsM S k) e w' := by
  obtain ⟨tt, ht⟩ := h.title
  obtain ⟨a1, b1, f1, _, _⟩ := h.kinds.form
  obtain ⟨a2, b2, f2, _, _⟩ := h.members.form
  obtain ⟨a3, b3, f3, _, _⟩ := h.preds.form
  obtain ⟨a4, b4, f4, _, _⟩ := h.classes.form
  obtain ⟨a5, b5, f5, _, _⟩ := h.sources.form
  obtain ⟨a6, b6, f6, _, _⟩ := h.rules.form
  obtain ⟨a7, b7, f7, _, _⟩ := h.excepts.form
  obtain ⟨a8, b8, f8, _, _⟩ := h.totals.form
  obtain ⟨s0, s1, s2, s3, s4, s5, s6, s7, s8⟩ := st
  simp only at ht f1 f2 f3 f4 f5 f6 f7 f8
  subst ht f1 f2 f3 f4 f5 f6 f7 f8
  have HS := hide h
  have HA0 := hide ((Below.refl w.heap.size w).alloc (Nat.le_refl _) (.cells #[.string tt, .slice a1 S.kinds.length b1, .slice a2 S.members.length b2, .slice a3 S.preds.length b3, .slice a4 S.classes.length b4, .slice a5 S.sources.length b5, .slice a6 S.rules.length b6, .slice a7 S.excepts.length b7, .slice a8 S.totals.length b8] 31))
  have HB0 := hide (heap_alloc_new w (.cells #[.string tt, .slice a1 S.kinds.length b1, .slice a2 S.members.length b2, .slice a3 S.preds.length b3, .slice a4 S.classes.length b4, .slice a5 S.sources.length b5, .slice a6 S.rules.length b6, .slice a7 S.excepts.length b7, .slice a8 S.totals.length b8] 31))
  clear h
  show Calls Tryz.prog 11 #[.agg #[.string tt, .slice a1 S.kinds.length b1, .slice a2 S.members.length b2, .slice a3 S.preds.length b3, .slice a4 S.classes.length b4, .slice a5 S.sources.length b5, .slice a6 S.rules.length b6, .slice a7 S.excepts.length b7, .slice a8 S.totals.length b8], .int .i64 k] w _
  go_enter Tryz.func11, Tryz.ntmps11
  go_upto_region 1 with fail
  generalize w.alloc (.cells #[.string tt, .slice a1 S.kinds.length b1, .slice a2 S.members.length b2, .slice a3 S.preds.length b3, .slice a4 S.classes.length b4, .slice a5 S.sources.length b5, .slice a6 S.rules.length b6, .slice a7 S.excepts.length b7, .slice a8 S.totals.length b8] 31) = X0 at *
  have c0 := cell_of_row X0 _ 0 _ _ _ HB0.out
  have c1 := cell_of_row X0 _ 1 _ _ _ HB0.out
  have c2 := cell_of_row X0 _ 2 _ _ _ HB0.out
  have c3 := cell_of_row X0 _ 3 _ _ _ HB0.out
  have c4 := cell_of_row X0 _ 4 _ _ _ HB0.out
  have c5 := cell_of_row X0 _ 5 _ _ _ HB0.out
  have c6 := cell_of_row X0 _ 6 _ _ _ HB0.out
  have c7 := cell_of_row X0 _ 7 _ _ _ HB0.out
  have c8 := cell_of_row X0 _ 8 _ _ _ HB0.out
  simp only [List.getElem?_toArray, List.getElem?_cons_zero, List.getElem?_cons_succ] at c0 c1 c2 c3 c4 c5 c6 c7 c8
  have CK := hide (rcheck_any (SR.go HA0.out HS.out))
  unfold St9.agg at CK
  simp only at CK
  go_upto_region 2 with (go_at_call 9; refine CK.out.mono ?_; rintro e X1 ⟨rfl, hb1⟩)
  have HA1 := hide (HA0.out.trans (hb1.mono HA0.out.size))
  have HB1 := hide ((hb1.block _ (loc_lt HB0.out)).trans HB0.out)
  clear hb1 CK HA0 HB0 c0 c1 c2 c3 c4 c5 c6 c7 c8
  obtain ⟨c, hc⟩ : ∃ c, (checkM S).1 = c := ⟨_, rfl⟩
  have HC := hide hc
  rw [hc]
  clear hc
  generalize (checkM S).2 = at9
  by_cases hc0 : c = 0
  case neg =>
    have hcb : (c == 0) = false := beq_eq_false_iff_ne.2 hc0
    have HC0 : Hid (c ≠ 0) := hide hc0
    clear hc0
    go_wp2_with fail
    go_ret3
    exact ⟨HA1.out, .inl ⟨HC.out ▸ HC0.out, by rw [HC.out]; rfl⟩⟩
  subst hc0
  obtain ⟨hfit, hall⟩ := check_ok.1 HC.out
  have HFIT := hide hfit
  obtain ⟨hfk, hfm, hfp, -, -, hfr, -⟩ := fitB hfit
  have HALL := hide hall
  have HOK := hide (preds_okS (show AllOk (grp S 2) from by
    obtain ⟨q, hq⟩ := pre8_split S (k := 2) (by omega)
    rw [hq] at hall
    exact fun x hx => hall x (by simp [hx])))
  clear hall hfit
  have c0 := cell_of_row X1 _ 0 _ _ _ HB1.out
  have c1 := cell_of_row X1 _ 1 _ _ _ HB1.out
  have c2 := cell_of_row X1 _ 2 _ _ _ HB1.out
  have c3 := cell_of_row X1 _ 3 _ _ _ HB1.out
  have c4 := cell_of_row X1 _ 4 _ _ _ HB1.out
  have c5 := cell_of_row X1 _ 5 _ _ _ HB1.out
  have c6 := cell_of_row X1 _ 6 _ _ _ HB1.out
  have c7 := cell_of_row X1 _ 7 _ _ _ HB1.out
  have c8 := cell_of_row X1 _ 8 _ _ _ HB1.out
  simp only [List.getElem?_toArray, List.getElem?_cons_zero, List.getElem?_cons_succ] at c0 c1 c2 c3 c4 c5 c6 c7 c8
  by_cases hk0 : k < 0
  case pos =>
    have HV : Hid (varsM S k = .error 1) := hide (by unfold varsM; rw [want_f (by rw [decide_eq_false (by omega)]; rfl)]; rfl)
    have hkd : decide (k < 0) = true := decide_eq_true hk0
    clear hk0
    go_wp2_with fail
    go_ret3
    exact ⟨HA1.out, .inr (.inl ⟨HC.out, 1, HV.out, rfl⟩)⟩
  by_cases hk1 : k < (S.rules.length : Int)
  case neg =>
    have HV : Hid (varsM S k = .error 1) := hide (by unfold varsM; rw [want_f (by rw [decide_eq_false hk1]; simp)]; rfl)
    have hkd : decide (k < 0) = false := decide_eq_false hk0
    have hke : decide ((S.rules.length : Int) ≤ k) = true := decide_eq_true (by omega)
    clear hk0 hk1
    go_wp2_with fail
    go_ret3
    exact ⟨HA1.out, .inr (.inl ⟨HC.out, 1, HV.out, rfl⟩)⟩
  obtain ⟨j, rfl⟩ : ∃ j : Nat, k = (j : Int) := ⟨k.toNat, by omega⟩
  have hj : j < S.rules.length := by omega
  obtain ⟨t, ht⟩ : ∃ t, S.rules[j]? = some t := ⟨_, List.getElem?_eq_getElem hj⟩
  have HRO := hide (rule_ok HALL.out ht)
  have HVM : Hid (varsM S (j : Int) = partsM S.ctx t) := hide (by unfold varsM; rw [want_t (by rw [decide_eq_true (by omega), decide_eq_true hk1]; rfl)]; show (match S.rules[((j : Nat) : Int).toNat]? with | some t => partsM S.ctx t | none => .error 1) = _; rw [Int.toNat_natCast, ht])
  have hkd : decide ((j : Int) < 0) = false := decide_eq_false hk0
  have hke : decide ((S.rules.length : Int) ≤ (j : Int)) = false := decide_eq_false (by omega)
  clear hk0 hk1
  go_upto_region 7 with fail
  have PK := hide (Pk.start (X := X1) HS.out HFIT.out HA1.out)
  have hA : Below X1.heap.size X1 (X1.alloc (.cells #[.slice none 0 0, .slice none 0 0, .slice none 0 0] 104)) := (Below.refl _ X1).alloc (Nat.le_refl _) _
  have HA5 := hide hA
  have HB5 := hide ((hA.block _ (loc_lt HB1.out)).trans HB1.out)
  have HV1 : Hid (w.heap.size < X1.heap.size) := hide (loc_lt HB1.out)
  clear hA hkd hke c0 c1 c2 c3 c4 c5 c6 c7 c8
  generalize X1.alloc (.cells #[.slice none 0 0, .slice none 0 0, .slice none 0 0] 104) = X5 at *
  have c0 := cell_of_row X5 _ 0 _ _ _ HB5.out
  have c1 := cell_of_row X5 _ 1 _ _ _ HB5.out
  have c2 := cell_of_row X5 _ 2 _ _ _ HB5.out
  have c3 := cell_of_row X5 _ 3 _ _ _ HB5.out
  have c4 := cell_of_row X5 _ 4 _ _ _ HB5.out
  have c5 := cell_of_row X5 _ 5 _ _ _ HB5.out
  have c6 := cell_of_row X5 _ 6 _ _ _ HB5.out
  have c7 := cell_of_row X5 _ 7 _ _ _ HB5.out
  have c8 := cell_of_row X5 _ 8 _ _ _ HB5.out
  simp only [List.getElem?_toArray, List.getElem?_cons_zero, List.getElem?_cons_succ] at c0 c1 c2 c3 c4 c5 c6 c7 c8
  have CR := hide (rrule_any PK.out HOK.out ht)
  unfold St9.agg at CR
  simp only at CR
  go_upto_region 8 with (go_at_call 56; refine CR.out.mono ?_; rintro e X6 ⟨rfl, hf6, hp6⟩)
  obtain ⟨v, hpv, hpk⟩ := hp6 HRO.out
  have hb6 : Below X1.heap.size X1 X6 := HA5.out.trans (hf6.below fun k hk => ⟨Nat.lt_of_lt_of_le hk HA5.out.size, by omega⟩)
  have HB6 := hide ((hb6.block _ HV1.out).trans HB1.out)
  have HLOW6 := hide (HA1.out.trans (hb6.mono HA1.out.size))
  obtain ⟨hnm, hsh, hh4⟩ := parts_N (C := S.ctx) (fun p hp => (HOK.out p hp).1) hpv
  have HNM := hide hnm
  have hb16 : t.body.length ≤ 16 := by
    have h1 := HRO.out
    unfold ruleM at h1
    obtain ⟨_, _, h1⟩ := ex_ok h1
    obtain ⟨_, _, h1⟩ := ex_ok h1
    obtain ⟨_, _, h1⟩ := ex_ok h1
    obtain ⟨_, _, h1⟩ := ex_ok h1
    obtain ⟨_, _, h1⟩ := ex_ok h1
    obtain ⟨_, h2, _⟩ := ex_ok h1
    by_cases hle : (t.body.length : Int) ≤ 16
    · omega
    · rw [decide_eq_false hle] at h2; cases h2
  have HKN : Hid ((-1 : Int) ∉ v.kinds) := hide (by
    have h1 := HRO.out
    unfold ruleM at h1
    obtain ⟨_, _, h1⟩ := ex_ok h1
    obtain ⟨_, _, h1⟩ := ex_ok h1
    obtain ⟨_, _, h1⟩ := ex_ok h1
    obtain ⟨_, _, h1⟩ := ex_ok h1
    obtain ⟨_, _, h1⟩ := ex_ok h1
    obtain ⟨_, _, h1⟩ := ex_ok h1
    obtain ⟨v', h2, h3⟩ := ex_ok h1
    rw [hpv] at h2
    cases h2
    intro hm
    rw [decide_eq_true hm] at h3
    cases h3)
  have HPV := hide hpv
  obtain ⟨nv, kv, lv, N, Ks, L, hbp, hsim, hN2, -⟩ := hpk.bk
  have HSIM := hide hsim
  obtain ⟨na, nc, rfl⟩ := owns_slice hbp.rowN
  have hNb : Hid (N.length ≤ 140737488351232) := hide (by omega)
  obtain ⟨ka, kc, rfl⟩ := owns_slice hbp.rowK
  have HBP := hide hbp
  obtain ⟨gr, oR, ys, rfl, hgr, _, hcell, hcx⟩ := RR.open HS.out.rules ht
  have HCX := hide (cRule.go HLOW6.out hcx)
  obtain ⟨_, _, rfl, _, _, r1, ⟨hv, rfl, _, r2⟩⟩ := hcx
  obtain ⟨ba, bc, rfl, _⟩ := r1.form
  obtain ⟨ha, hc, rfl, _⟩ := r2.form
  have d0 : X6.cell? ⟨gr, oR + j * 11, none⟩ = some (.string ⟨t.name.toArray⟩) := (World.cell?_of_block (HLOW6.out.block gr hgr)).trans (hcell 0 _ rfl)
  have d1 : X6.cell? ⟨gr, oR + j * 11 + 1, none⟩ = some (.string ⟨t.source.toArray⟩) := (World.cell?_of_block (HLOW6.out.block gr hgr)).trans (hcell 1 _ rfl)
  have d2 : X6.cell? ⟨gr, oR + j * 11 + 2, none⟩ = some (.int .i64 t.day) := (World.cell?_of_block (HLOW6.out.block gr hgr)).trans (hcell 2 _ rfl)
  have d3 : X6.cell? ⟨gr, oR + j * 11 + 3, none⟩ = some (.int .i64 t.till) := (World.cell?_of_block (HLOW6.out.block gr hgr)).trans (hcell 3 _ rfl)
  have d4 : X6.cell? ⟨gr, oR + j * 11 + 4, none⟩ = some (.slice ba t.body.length bc) := (World.cell?_of_block (HLOW6.out.block gr hgr)).trans (hcell 4 _ rfl)
  have d5 : X6.cell? ⟨gr, oR + j * 11 + 5, none⟩ = some (.int .i64 t.arrow) := (World.cell?_of_block (HLOW6.out.block gr hgr)).trans (hcell 5 _ rfl)
  have d6 : X6.cell? ⟨gr, oR + j * 11 + 6, none⟩ = some (.bool t.head.neg) := (World.cell?_of_block (HLOW6.out.block gr hgr)).trans (hcell 6 _ rfl)
  have d7 : X6.cell? ⟨gr, oR + j * 11 + 7, none⟩ = some (.string ⟨t.head.pred.toArray⟩) := (World.cell?_of_block (HLOW6.out.block gr hgr)).trans (hcell 7 _ rfl)
  have d8 : X6.cell? ⟨gr, oR + j * 11 + 8, none⟩ = some (.slice ha t.head.args.length hc) := (World.cell?_of_block (HLOW6.out.block gr hgr)).trans (hcell 8 _ rfl)
  have d9 : X6.cell? ⟨gr, oR + j * 11 + 9, none⟩ = some (.bool t.head.hasValue) := (World.cell?_of_block (HLOW6.out.block gr hgr)).trans (hcell 9 _ rfl)
  have d10 : X6.cell? ⟨gr, oR + j * 11 + 10, none⟩ = some (.int .i64 t.head.value) := (World.cell?_of_block (HLOW6.out.block gr hgr)).trans (hcell 10 _ rfl)
  unfold str at *
  have e6 := cell_of_row X6 _ 6 _ _ _ HB6.out
  simp only [List.getElem?_toArray, List.getElem?_cons_zero, List.getElem?_cons_succ] at e6
  have CS := hide (seen_any HCX.out hsh hb16 hh4)
  have hsl : (seenM t).length ≤ 1028 := by
    have h1 := seen_len hsh
    unfold seenM
    rw [List.length_append]
    omega
  unfold str at CS
  clear CR hf6 hp6 hpk hbp hsim hcell r1 r2 hnm hsh hh4 hb16 hpv c0 c1 c2 c3 c4 c5 c6 c7 c8
  go_upto_region 9 with (go_at_call 57; refine CS.out.mono ?_; rintro e X7 ⟨sa, sc, rfl, hrs, hb7⟩)
  have VB : Hid (Vb w X1.heap.size na nc ka kc lv N Ks sa sc (seenM t) X7) := hide ⟨HLOW6.out.trans (hb7.mono HLOW6.out.size), (hb7.block _ (loc_lt HBP.out.box)).trans HBP.out.box, owns_keep HBP.out.rowN fun g hg => hb7.block g (owns_lt HBP.out.rowN hg), owns_keep HBP.out.rowK fun g hg => hb7.block g (owns_lt HBP.out.rowK hg), owns_down hrs (Nat.zero_le _)⟩
  clear CS hrs hb7 HBP HB6 HLOW6 HCX hb6 d0 d1 d2 d3 d4 d5 d6 d7 d8 d9 d10 e6
  generalize X1.heap.size = V at *
  have VR : Hid (Vr (kindAt v) X7 (((seenM t).take 0).foldl addN []) 0 (.slice none 0 0) (.slice none 0 0) X7) := hide ⟨Below.refl _ _, ⟨rfl, .inl ⟨rfl, rfl⟩⟩, ⟨rfl, .inl ⟨rfl, rfl⟩⟩, rfl⟩
  go_wp2_with fail
  go_loopw [11, 12, 13] (fun p q z wr => ∃ (i n : Nat) (a0 a9 : Option Addr) (c0 c9 : Nat), i ≤ (seenM t).length ∧ z = .int .i64 i ∧ p = .slice a0 n c0 ∧ q = .slice a9 n c9 ∧ Hid (Vr (kindAt v) X7 (((seenM t).take i).foldl addN []) n (.slice a0 n c0) (.slice a9 n c9) wr)) (fun _ _ z _ => (seenM t).length - (intOf z).toNat)
  case atStart => exact ⟨0, 0, none, none, 0, 0, by omega, rfl, rfl, rfl, VR⟩
  case round =>
    clear VR
    obtain ⟨i, n, a0, a9, c0, c9, hi, rfl, rfl, rfl, VR⟩ := hrel
    have hn : n ≤ 1028 := by
      have h1 := addF_len [] ((seenM t).take i)
      have h2 := VR.out.len
      have h3 : ((seenM t).take i).length ≤ i := by rw [List.length_take]; omega
      simp only [List.length_nil] at h1
      omega
    have VBr := hide (VB.out.keep VR.out.low)
    by_cases hlt : i < (seenM t).length
    · obtain ⟨s, hs0⟩ : ∃ s, (seenM t)[i]? = some s := ⟨(seenM t)[i], List.getElem?_eq_getElem hlt⟩
      have HT : Hid (((seenM t).take (i + 1)).foldl addN [] = addN (((seenM t).take i).foldl addN []) s) := hide (by rw [take_snoc hs0, List.foldl_append]; rfl)
      have HIN : Hid (isVarB s = true → s ∈ v.names) := hide (fun hv => by
        rw [HNM.out]
        exact fold_in hv _ _ (List.mem_of_getElem? hs0))
      obtain ⟨sg, so, rfl, q0⟩ := (owns_at1 VBr.out.rowS).str hlt
      rw [show (seenM t).getD i [] = s by rw [List.getD_eq_getElem?_getD, hs0]; rfl] at q0
      have HGS : Hid ((seenM t).getD i [] = s) := hide (by rw [List.getD_eq_getElem?_getD, hs0]; rfl)
      clear hs0
      generalize hnme : ((seenM t).take i).foldl addN [] = nm at *
      have CV := hide (rIsVar_any s wr)
      unfold str at CV
      cases hv : isVarB s with
      | false =>
        rw [hv] at CV
        have HS2 := hide VR.out
        rw [show nm = addN nm s by unfold addN; rw [if_neg (by rw [hv]; simp)], ← HT.out] at HS2
        clear hv
        go_wp2_with (go_at_call 58; refine CV.out.mono ?_; rintro e wx ⟨rfl, hw⟩; subst wx)
        go_roundw
        case rel => exact ⟨i + 1, n, a0, a9, c0, c9, by omega, by go_num, rfl, rfl, HS2⟩
        case measure => simp [intOf]; omega
      | true =>
        rw [hv] at CV
        have CF := hide (rfindS (c := c0) (owns_at1 (owns_down VR.out.r1 (Nat.zero_le _))) VR.out.len (by omega) s)
        by_cases hm : s ∈ nm
        · rw [findZ_in hm] at CF
          have HS2 := hide VR.out
          rw [show nm = addN nm s by unfold addN; rw [if_neg (by simp [hm])], ← HT.out] at HS2
          clear hv hm
          go_wp2_with (first | (go_at_call 58; refine CV.out.mono ?_; rintro e wx ⟨rfl, hw⟩; subst wx) | (go_at_call 59; refine CF.out.mono ?_; rintro e wx ⟨rfl, hw⟩; subst wx))
          go_roundw
          case rel => exact ⟨i + 1, n, a0, a9, c0, c9, by omega, by go_num, rfl, rfl, HS2⟩
          case measure => simp [intOf]; omega
        · rw [findZ_out hm] at CF
          have HAD : Hid (addN nm s = nm ++ [s]) := hide (by unfold addN; rw [if_pos ⟨hv, hm⟩])
          have HSV := hide (HIN.out hv)
          clear hv hm
          go_upto_region 15 with (first | (go_at_call 58; refine CV.out.mono ?_; rintro e wx ⟨rfl, hw⟩; subst wx) | (go_at_call 59; refine CF.out.mono ?_; rintro e wx ⟨rfl, hw⟩; subst wx))
          obtain ⟨iS, hiS, yM0, yM1, yM2⟩ := info_parts' infoS
          obtain ⟨iM, hiM, zM0, zM1, zM2⟩ := info_parts' infoI
          have HR1 := hide VR.out.r1
          have HL1 : X7.heap.size ≤ wr.heap.size := VR.out.low.size
          go_upto_region 16 with (at_builtin; go_must (refine wpList_append_two _ rfl _ _ 22 rfl X7.heap.size 9 iS _ 1 16 Tryz.underlying22 hiS yM0 yM1 yM2 rfl (by decide) _ _ _ rfl (HR1.out.alloc _) ⟨wr.heap.size, 0, none⟩ 1 [.string ⟨s.toArray⟩] rfl rfl (news_at rfl) (by simp [Value.oneCell']) (by unfold maxLen; omega) (by omega) (by simp; omega) ?_); intro g4 cap4 w4 hown4 hg4)
          have hz : (wr.alloc (.cells #[.string ⟨s.toArray⟩] 9)).heap.size = wr.heap.size + 1 := by simp
          rw [hz] at hg4
          obtain ⟨hlow4, hr24⟩ := VR.out.name hg4
          have HLOW4 := hide hlow4
          have HR24 := hide hr24
          have HR14 : Hid (w4.ownsRow X7.heap.size 9 1 (.slice (some ⟨g4, 0, none⟩) (n + 1) cap4) (n + 1) (strs (nm ++ [s]))) := hide (by rw [strs_one]; exact hown4)
          have HLEN := hide VR.out.len
          have VB4 := hide (VB.out.keep hlow4)
          clear hown4 hg4 hz hlow4 hr24 CV CF q0 HR1 VBr VR
          have hsN : s ∈ N := by
            apply Classical.byContradiction
            intro hn9
            exact HKN.out ((HSIM.out.out s HSV.out hn9).1 ▸ kind_mem HSV.out)
          have hkd : kindAt v s = Ks.getD (posB N s) 0 := (HSIM.out.inn s hsN).2.1
          have hpl : posB N s < Ks.length := by rw [HSIM.out.len]; exact pos_lt hsN
          have hNl : N.length ≤ 140737488351232 := hNb.out
          obtain ⟨kg, ko, rfl, kc4⟩ := (owns_at1 VB4.out.rowK).int hpl
          rw [← hkd] at kc4
          obtain ⟨sg', so', esg, sc4⟩ := (owns_at1 VB4.out.rowS).str hlt
          cases esg
          rw [HGS.out] at sc4
          have HFN := hide (fun (W : World) (hb : Below w4.heap.size w4 W) => rfindS (c := nc) (At1.below (owns_at1 VB4.out.rowN) hb) rfl hNl s)
          rw [findZ_in hsN] at HFN
          have HFZ := HFN
          clear hkd HFN
          generalize posB N s = pos at *
          have hbox := VB4.out.box
          have b0 := cell_of_row w4 _ 0 _ _ _ hbox
          have b1 := cell_of_row w4 _ 1 _ _ _ hbox
          simp only [List.getElem?_toArray, List.getElem?_cons_zero, List.getElem?_cons_succ] at b0 b1
          clear hsN hNl hbox
          refine region_j NoE (Jr (tab16 V i n a9 c9 (.slice (some ⟨kg, ko, none⟩) Ks.length kc) (.slice na N.length nc) (.slice (some ⟨sg, so, none⟩) (seenM t).length sc) sg so kg ko s pos (kindAt v s)) [(9, ptr V), (10, .slice (some ⟨sg, so, none⟩) (seenM t).length sc), (13, .int .i64 i)] 17 (A16 w4 (.slice a9 n c9) (kindAt v s)) (B16 X7 w4 n (.slice a9 n c9) (ints (nm.map (kindAt v))) (kindAt v s))) (by kernel_rfl) (by kernel_rfl) ?_ (steps_j ⟨?_, ?_, ?_, ?_, ?_, ?_, ?_, ?_, ?_, ?_, ?_, ?_, ?_, ?_, ?_, ?_, ?_, ?_, ?_, trivial⟩) ?_ ?_
          · refine ⟨fun p hp => ?_, fun j d v _ e => by (cases e), fun _ => ⟨Below.refl _ _, rfl, fun e => by (cases e)⟩, fun e => by (cases e)⟩
            simp only [List.mem_cons, List.not_mem_nil, or_false] at hp
            rcases hp with rfl | rfl | rfl <;> rfl
          · intro ρ W L hc hf hL hd hcl hJ
            have hn : L 17 = false := by
              cases e : L 17 with
              | false => rfl
              | true =>
                have r0 : L 0 = true := hcl 17 _ rfl e ⟨0, .data⟩ (by simp) rfl
                rw [r0] at hL; cases hL
            have k12 : ρ (.tmp 12) = .slice a9 n c9 := (hJ.ahead hn).2.1
            refine does_value (v := .slice a9 n c9) (w' := W) ?_ (hJ.pure rfl (fun j9 d9 v9 h9 e9 => by subst e9; exact (tab16_inj (rfl : (tab16 V i n a9 c9 (.slice (some ⟨kg, ko, none⟩) Ks.length kc) (.slice na N.length nc) (.slice (some ⟨sg, so, none⟩) (seenM t).length sc) sg so kg ko s pos (kindAt v s)) 0 = some (70, _)) h9)) (by simp) (by decide) (fun h => A16.go h (more_off (by decide)) (laid_ne (by simp)) (laid_ne (by simp))) (fun h => B16.go h (more_off (by decide)) (laid_ne (by simp)) (laid_ne (by simp))))
            clear hc hf hL hd hcl hJ
            go_simp
          · intro ρ W L hc hf hL hd hcl hJ
            have k9 : ρ (.tmp 9) = ptr V := hJ.base (9, ptr V) (by simp)
            refine does_value (v := ptr V) (w' := W) ?_ (hJ.pure rfl (fun j9 d9 v9 h9 e9 => by subst e9; exact (tab16_inj (rfl : (tab16 V i n a9 c9 (.slice (some ⟨kg, ko, none⟩) Ks.length kc) (.slice na N.length nc) (.slice (some ⟨sg, so, none⟩) (seenM t).length sc) sg so kg ko s pos (kindAt v s)) 1 = some (71, _)) h9)) (by simp) (by decide) (fun h => A16.go h (more_off (by decide)) (laid_ne (by simp)) (laid_ne (by simp))) (fun h => B16.go h (more_off (by decide)) (laid_ne (by simp)) (laid_ne (by simp))))
            clear hc hf hL hd hcl hJ
            go_simp
          · intro ρ W L hc hf hL hd hcl hJ
            have k71 : ρ (.tmp 71) = ptr V := (hJ.vals 1 71 _ rfl (hd ⟨1, .data⟩ (by simp) rfl))
            refine does_value (v := ptr V) (w' := W) ?_ (hJ.pure rfl (fun j9 d9 v9 h9 e9 => by subst e9; exact (tab16_inj (rfl : (tab16 V i n a9 c9 (.slice (some ⟨kg, ko, none⟩) Ks.length kc) (.slice na N.length nc) (.slice (some ⟨sg, so, none⟩) (seenM t).length sc) sg so kg ko s pos (kindAt v s)) 2 = some (72, _)) h9)) (by simp) (by decide) (fun h => A16.go h (more_off (by decide)) (laid_ne (by simp)) (laid_ne (by simp))) (fun h => B16.go h (more_off (by decide)) (laid_ne (by simp)) (laid_ne (by simp))))
            clear hc hf hL hd hcl hJ
            go_simp
          · intro ρ W L hc hf hL hd hcl hJ
            have k72 : ρ (.tmp 72) = ptr V := (hJ.vals 2 72 _ rfl (hd ⟨2, .data⟩ (by simp) rfl))
            refine does_value (v := .pointer (some ⟨V, 1, none⟩)) (w' := W) ?_ (hJ.pure rfl (fun j9 d9 v9 h9 e9 => by subst e9; exact (tab16_inj (rfl : (tab16 V i n a9 c9 (.slice (some ⟨kg, ko, none⟩) Ks.length kc) (.slice na N.length nc) (.slice (some ⟨sg, so, none⟩) (seenM t).length sc) sg so kg ko s pos (kindAt v s)) 3 = some (73, _)) h9)) (by simp) (by decide) (fun h => A16.go h (more_off (by decide)) (laid_ne (by simp)) (laid_ne (by simp))) (fun h => B16.go h (more_off (by decide)) (laid_ne (by simp)) (laid_ne (by simp))))
            clear hc hf hL hd hcl hJ
            go_simp
          · intro ρ W L hc hf hL hd hcl hJ
            have k73 : ρ (.tmp 73) = .pointer (some ⟨V, 1, none⟩) := (hJ.vals 3 73 _ rfl (hd ⟨3, .data⟩ (by simp) rfl))
            have hn : L 17 = false := by
              cases e : L 17 with
              | false => rfl
              | true =>
                have r16 : L 16 = true := hcl 17 _ rfl e ⟨16, .data⟩ (by simp) rfl
                have r15 : L 15 = true := hcl 16 _ rfl r16 ⟨15, .data⟩ (by simp) rfl
                have r14 : L 14 = true := hcl 15 _ rfl r15 ⟨14, .data⟩ (by simp) rfl
                have r4 : L 4 = true := hcl 14 _ rfl r14 ⟨4, .data⟩ (by simp) rfl
                rw [r4] at hL; cases hL
            have hbw : Below w4.heap.size w4 W := (below_drew w4).trans (hJ.ahead hn).1
            have q := (World.cell?_of_block (hbw.block V (loc_lt VB4.out.box))).trans b1
            clear hbw
            refine does_value (v := .slice (some ⟨kg, ko, none⟩) Ks.length kc) (w' := W) ?_ (hJ.pure rfl (fun j9 d9 v9 h9 e9 => by subst e9; exact (tab16_inj (rfl : (tab16 V i n a9 c9 (.slice (some ⟨kg, ko, none⟩) Ks.length kc) (.slice na N.length nc) (.slice (some ⟨sg, so, none⟩) (seenM t).length sc) sg so kg ko s pos (kindAt v s)) 4 = some (74, _)) h9)) (by simp) (by decide) (fun h => A16.go h (more_off (by decide)) (laid_ne (by simp)) (laid_ne (by simp))) (fun h => B16.go h (more_off (by decide)) (laid_ne (by simp)) (laid_ne (by simp))))
            clear hc hf hL hd hcl hJ
            go_simp
          · intro ρ W L hc hf hL hd hcl hJ
            have k9 : ρ (.tmp 9) = ptr V := hJ.base (9, ptr V) (by simp)
            refine does_value (v := ptr V) (w' := W) ?_ (hJ.pure rfl (fun j9 d9 v9 h9 e9 => by subst e9; exact (tab16_inj (rfl : (tab16 V i n a9 c9 (.slice (some ⟨kg, ko, none⟩) Ks.length kc) (.slice na N.length nc) (.slice (some ⟨sg, so, none⟩) (seenM t).length sc) sg so kg ko s pos (kindAt v s)) 5 = some (75, _)) h9)) (by simp) (by decide) (fun h => A16.go h (more_off (by decide)) (laid_ne (by simp)) (laid_ne (by simp))) (fun h => B16.go h (more_off (by decide)) (laid_ne (by simp)) (laid_ne (by simp))))
            clear hc hf hL hd hcl hJ
            go_simp
          · intro ρ W L hc hf hL hd hcl hJ
            have k75 : ρ (.tmp 75) = ptr V := (hJ.vals 5 75 _ rfl (hd ⟨5, .data⟩ (by simp) rfl))
            refine does_value (v := ptr V) (w' := W) ?_ (hJ.pure rfl (fun j9 d9 v9 h9 e9 => by subst e9; exact (tab16_inj (rfl : (tab16 V i n a9 c9 (.slice (some ⟨kg, ko, none⟩) Ks.length kc) (.slice na N.length nc) (.slice (some ⟨sg, so, none⟩) (seenM t).length sc) sg so kg ko s pos (kindAt v s)) 6 = some (76, _)) h9)) (by simp) (by decide) (fun h => A16.go h (more_off (by decide)) (laid_ne (by simp)) (laid_ne (by simp))) (fun h => B16.go h (more_off (by decide)) (laid_ne (by simp)) (laid_ne (by simp))))
            clear hc hf hL hd hcl hJ
            go_simp
          · intro ρ W L hc hf hL hd hcl hJ
            have k76 : ρ (.tmp 76) = ptr V := (hJ.vals 6 76 _ rfl (hd ⟨6, .data⟩ (by simp) rfl))
            refine does_value (v := ptr V) (w' := W) ?_ (hJ.pure rfl (fun j9 d9 v9 h9 e9 => by subst e9; exact (tab16_inj (rfl : (tab16 V i n a9 c9 (.slice (some ⟨kg, ko, none⟩) Ks.length kc) (.slice na N.length nc) (.slice (some ⟨sg, so, none⟩) (seenM t).length sc) sg so kg ko s pos (kindAt v s)) 7 = some (77, _)) h9)) (by simp) (by decide) (fun h => A16.go h (more_off (by decide)) (laid_ne (by simp)) (laid_ne (by simp))) (fun h => B16.go h (more_off (by decide)) (laid_ne (by simp)) (laid_ne (by simp))))
            clear hc hf hL hd hcl hJ
            go_simp
          · intro ρ W L hc hf hL hd hcl hJ
            have k77 : ρ (.tmp 77) = ptr V := (hJ.vals 7 77 _ rfl (hd ⟨7, .data⟩ (by simp) rfl))
            have hn : L 17 = false := by
              cases e : L 17 with
              | false => rfl
              | true =>
                have r16 : L 16 = true := hcl 17 _ rfl e ⟨16, .data⟩ (by simp) rfl
                have r15 : L 15 = true := hcl 16 _ rfl r16 ⟨15, .data⟩ (by simp) rfl
                have r14 : L 14 = true := hcl 15 _ rfl r15 ⟨14, .data⟩ (by simp) rfl
                have r13 : L 13 = true := hcl 14 _ rfl r14 ⟨13, .data⟩ (by simp) rfl
                have r8 : L 8 = true := hcl 13 _ rfl r13 ⟨8, .data⟩ (by simp) rfl
                rw [r8] at hL; cases hL
            have hbw : Below w4.heap.size w4 W := (below_drew w4).trans (hJ.ahead hn).1
            have q := (World.cell?_of_block (hbw.block V (loc_lt VB4.out.box))).trans b0
            clear hbw
            refine does_value (v := .slice na N.length nc) (w' := W) ?_ (hJ.pure rfl (fun j9 d9 v9 h9 e9 => by subst e9; exact (tab16_inj (rfl : (tab16 V i n a9 c9 (.slice (some ⟨kg, ko, none⟩) Ks.length kc) (.slice na N.length nc) (.slice (some ⟨sg, so, none⟩) (seenM t).length sc) sg so kg ko s pos (kindAt v s)) 8 = some (78, _)) h9)) (by simp) (by decide) (fun h => A16.go h (more_off (by decide)) (laid_ne (by simp)) (laid_ne (by simp))) (fun h => B16.go h (more_off (by decide)) (laid_ne (by simp)) (laid_ne (by simp))))
            clear hc hf hL hd hcl hJ
            go_simp
          · intro ρ W L hc hf hL hd hcl hJ
            have k10 : ρ (.tmp 10) = .slice (some ⟨sg, so, none⟩) (seenM t).length sc := hJ.base (10, .slice (some ⟨sg, so, none⟩) (seenM t).length sc) (by simp)
            refine does_value (v := .slice (some ⟨sg, so, none⟩) (seenM t).length sc) (w' := W) ?_ (hJ.pure rfl (fun j9 d9 v9 h9 e9 => by subst e9; exact (tab16_inj (rfl : (tab16 V i n a9 c9 (.slice (some ⟨kg, ko, none⟩) Ks.length kc) (.slice na N.length nc) (.slice (some ⟨sg, so, none⟩) (seenM t).length sc) sg so kg ko s pos (kindAt v s)) 9 = some (79, _)) h9)) (by simp) (by decide) (fun h => A16.go h (more_off (by decide)) (laid_ne (by simp)) (laid_ne (by simp))) (fun h => B16.go h (more_off (by decide)) (laid_ne (by simp)) (laid_ne (by simp))))
            clear hc hf hL hd hcl hJ
            go_simp
          · intro ρ W L hc hf hL hd hcl hJ
            have k13 : ρ (.tmp 13) = .int .i64 i := hJ.base (13, .int .i64 i) (by simp)
            refine does_value (v := .int .i64 i) (w' := W) ?_ (hJ.pure rfl (fun j9 d9 v9 h9 e9 => by subst e9; exact (tab16_inj (rfl : (tab16 V i n a9 c9 (.slice (some ⟨kg, ko, none⟩) Ks.length kc) (.slice na N.length nc) (.slice (some ⟨sg, so, none⟩) (seenM t).length sc) sg so kg ko s pos (kindAt v s)) 10 = some (80, _)) h9)) (by simp) (by decide) (fun h => A16.go h (more_off (by decide)) (laid_ne (by simp)) (laid_ne (by simp))) (fun h => B16.go h (more_off (by decide)) (laid_ne (by simp)) (laid_ne (by simp))))
            clear hc hf hL hd hcl hJ
            go_simp
          · intro ρ W L hc hf hL hd hcl hJ
            have k79 : ρ (.tmp 79) = .slice (some ⟨sg, so, none⟩) (seenM t).length sc := (hJ.vals 9 79 _ rfl (hd ⟨9, .data⟩ (by simp) rfl))
            have k80 : ρ (.tmp 80) = .int .i64 i := (hJ.vals 10 80 _ rfl (hd ⟨10, .data⟩ (by simp) rfl))
            refine does_value (v := .pointer (some ⟨sg, so + i, none⟩)) (w' := W) ?_ (hJ.pure rfl (fun j9 d9 v9 h9 e9 => by subst e9; exact (tab16_inj (rfl : (tab16 V i n a9 c9 (.slice (some ⟨kg, ko, none⟩) Ks.length kc) (.slice na N.length nc) (.slice (some ⟨sg, so, none⟩) (seenM t).length sc) sg so kg ko s pos (kindAt v s)) 11 = some (81, _)) h9)) (by simp) (by decide) (fun h => A16.go h (more_off (by decide)) (laid_ne (by simp)) (laid_ne (by simp))) (fun h => B16.go h (more_off (by decide)) (laid_ne (by simp)) (laid_ne (by simp))))
            clear hc hf hL hd hcl hJ
            go_simp
          · intro ρ W L hc hf hL hd hcl hJ
            have k81 : ρ (.tmp 81) = .pointer (some ⟨sg, so + i, none⟩) := (hJ.vals 11 81 _ rfl (hd ⟨11, .data⟩ (by simp) rfl))
            have hn : L 17 = false := by
              cases e : L 17 with
              | false => rfl
              | true =>
                have r16 : L 16 = true := hcl 17 _ rfl e ⟨16, .data⟩ (by simp) rfl
                have r15 : L 15 = true := hcl 16 _ rfl r16 ⟨15, .data⟩ (by simp) rfl
                have r14 : L 14 = true := hcl 15 _ rfl r15 ⟨14, .data⟩ (by simp) rfl
                have r13 : L 13 = true := hcl 14 _ rfl r14 ⟨13, .data⟩ (by simp) rfl
                have r12 : L 12 = true := hcl 13 _ rfl r13 ⟨12, .data⟩ (by simp) rfl
                rw [r12] at hL; cases hL
            have hbw : Below w4.heap.size w4 W := (below_drew w4).trans (hJ.ahead hn).1
            have q := (World.cell?_of_block (hbw.block sg (World.block_lt_of_cell? w4 _ sc4))).trans sc4
            clear hbw
            refine does_value (v := .string ⟨s.toArray⟩) (w' := W) ?_ (hJ.pure rfl (fun j9 d9 v9 h9 e9 => by subst e9; exact (tab16_inj (rfl : (tab16 V i n a9 c9 (.slice (some ⟨kg, ko, none⟩) Ks.length kc) (.slice na N.length nc) (.slice (some ⟨sg, so, none⟩) (seenM t).length sc) sg so kg ko s pos (kindAt v s)) 12 = some (82, _)) h9)) (by simp) (by decide) (fun h => A16.go h (more_off (by decide)) (laid_ne (by simp)) (laid_ne (by simp))) (fun h => B16.go h (more_off (by decide)) (laid_ne (by simp)) (laid_ne (by simp))))
            clear hc hf hL hd hcl hJ
            go_simp
          · intro ρ W L hc hf hL hd hcl hJ
            have hn : L 17 = false := by
              cases e : L 17 with
              | false => rfl
              | true =>
                have r16 : L 16 = true := hcl 17 _ rfl e ⟨16, .data⟩ (by simp) rfl
                have r15 : L 15 = true := hcl 16 _ rfl r16 ⟨15, .data⟩ (by simp) rfl
                have r14 : L 14 = true := hcl 15 _ rfl r15 ⟨14, .data⟩ (by simp) rfl
                have r13 : L 13 = true := hcl 14 _ rfl r14 ⟨13, .data⟩ (by simp) rfl
                rw [r13] at hL; cases hL
            have hbw : Below w4.heap.size w4 W := (below_drew w4).trans (hJ.ahead hn).1
            have k78 : ρ (.tmp 78) = .slice na N.length nc := (hJ.vals 8 78 _ rfl (hd ⟨8, .data⟩ (by simp) rfl))
            have k82 : ρ (.tmp 82) = .string ⟨s.toArray⟩ := (hJ.vals 12 82 _ rfl (hd ⟨12, .data⟩ (by simp) rfl))
            have kf := hf 59
            have CF := HFZ.out W hbw
            refine does_call (f := 59) (args := #[.slice na N.length nc, .string ⟨s.toArray⟩]) (w' := W) ?_ CF ?_
            · clear hc hf hL hd hcl hJ CF hbw
              go_simp
            · rintro e W' ⟨rfl, hw⟩
              subst W'
              exact ⟨_, rfl, (hJ.pure rfl (fun j9 d9 v9 h9 e9 => by subst e9; exact (tab16_inj (rfl : (tab16 V i n a9 c9 (.slice (some ⟨kg, ko, none⟩) Ks.length kc) (.slice na N.length nc) (.slice (some ⟨sg, so, none⟩) (seenM t).length sc) sg so kg ko s pos (kindAt v s)) 13 = some (83, _)) h9)) (by simp) (by decide) (fun h => A16.go h (more_off (by decide)) (laid_ne (by simp)) (laid_ne (by simp))) (fun h => B16.go h (more_off (by decide)) (laid_ne (by simp)) (laid_ne (by simp))))⟩
          · intro ρ W L hc hf hL hd hcl hJ
            have k74 : ρ (.tmp 74) = .slice (some ⟨kg, ko, none⟩) Ks.length kc := (hJ.vals 4 74 _ rfl (hd ⟨4, .data⟩ (by simp) rfl))
            have k83 : ρ (.tmp 83) = .int .i64 pos := (hJ.vals 13 83 _ rfl (hd ⟨13, .data⟩ (by simp) rfl))
            refine does_value (v := .pointer (some ⟨kg, ko + pos, none⟩)) (w' := W) ?_ (hJ.pure rfl (fun j9 d9 v9 h9 e9 => by subst e9; exact (tab16_inj (rfl : (tab16 V i n a9 c9 (.slice (some ⟨kg, ko, none⟩) Ks.length kc) (.slice na N.length nc) (.slice (some ⟨sg, so, none⟩) (seenM t).length sc) sg so kg ko s pos (kindAt v s)) 14 = some (84, _)) h9)) (by simp) (by decide) (fun h => A16.go h (more_off (by decide)) (laid_ne (by simp)) (laid_ne (by simp))) (fun h => B16.go h (more_off (by decide)) (laid_ne (by simp)) (laid_ne (by simp))))
            clear hc hf hL hd hcl hJ
            go_simp
          · intro ρ W L hc hf hL hd hcl hJ
            have k84 : ρ (.tmp 84) = .pointer (some ⟨kg, ko + pos, none⟩) := (hJ.vals 14 84 _ rfl (hd ⟨14, .data⟩ (by simp) rfl))
            have hn : L 17 = false := by
              cases e : L 17 with
              | false => rfl
              | true =>
                have r16 : L 16 = true := hcl 17 _ rfl e ⟨16, .data⟩ (by simp) rfl
                have r15 : L 15 = true := hcl 16 _ rfl r16 ⟨15, .data⟩ (by simp) rfl
                rw [r15] at hL; cases hL
            have hbw : Below w4.heap.size w4 W := (below_drew w4).trans (hJ.ahead hn).1
            have q := (World.cell?_of_block (hbw.block kg (World.block_lt_of_cell? w4 _ kc4))).trans kc4
            clear hbw
            refine does_value (v := .int .i64 (kindAt v s)) (w' := W) ?_ (hJ.pure rfl (fun j9 d9 v9 h9 e9 => by subst e9; exact (tab16_inj (rfl : (tab16 V i n a9 c9 (.slice (some ⟨kg, ko, none⟩) Ks.length kc) (.slice na N.length nc) (.slice (some ⟨sg, so, none⟩) (seenM t).length sc) sg so kg ko s pos (kindAt v s)) 15 = some (85, _)) h9)) (by simp) (by decide) (fun h => A16.go h (more_off (by decide)) (laid_ne (by simp)) (laid_ne (by simp))) (fun h => B16.go h (more_off (by decide)) (laid_ne (by simp)) (laid_ne (by simp))))
            clear hc hf hL hd hcl hJ
            go_simp
          · intro ρ W L hc hf hL hd hcl hJ
            have k85 : ρ (.tmp 85) = .int .i64 (kindAt v s) := (hJ.vals 15 85 _ rfl (hd ⟨15, .data⟩ (by simp) rfl))
            have hn : L 17 = false := by
              cases e : L 17 with
              | false => rfl
              | true =>
                have r16 : L 16 = true := hcl 17 _ rfl e ⟨16, .data⟩ (by simp) rfl
                rw [r16] at hL; cases hL
            refine does_value (v := .slice (some ⟨W.heap.size, 0, none⟩) 1 1) (w' := W.alloc (.cells #[.int .i64 (kindAt v s)] 3)) ?_ (hJ.other rfl (fun j d v h => by intro e; cases e; exact (tab16_off h).1 rfl) (by simp) (fun e => ?_) (fun e => ?_))
            · clear hc hf hL hd hcl hJ
              go_simp
            · have hA := hJ.ahead hn
              have hbl : Below W.heap.size W (W.alloc (.cells #[.int .i64 (kindAt v s)] 3)) := (Below.refl _ W).alloc (Nat.le_refl _) _
              exact ⟨hA.1.trans (hbl.mono hA.1.size), by rw [laid_ne (by simp)]; exact hA.2.1, fun _ => ⟨W.heap.size, laid_eq, heap_alloc_new W _⟩⟩
            · rw [more_off (by decide), hn] at e; cases e
          · intro ρ W L hc hf hL hd hcl hJ
            have k70 : ρ (.tmp 70) = .slice a9 n c9 := (hJ.vals 0 70 _ rfl (hd ⟨0, .data⟩ (by simp) rfl))
            obtain ⟨hbw0, -, h86⟩ := hJ.ahead hL
            obtain ⟨q, e86, hq⟩ := h86 (hd ⟨16, .data⟩ (by simp) rfl)
            have k86 : ρ (.tmp 86) = .slice (some ⟨q, 0, none⟩) 1 1 := e86
            have hbw := (below_drew w4).trans hbw0
            have hrw := owns_keep HR24.out fun g hg => hbw.block g (owns_lt HR24.out hg)
            have h18 : L 18 = false := by
              cases e : L 18 with
              | false => rfl
              | true =>
                have r17 : L 17 = true := hcl 18 _ rfl e ⟨17, .data⟩ (by simp) rfl
                rw [r17] at hL; cases hL
            refine does_append (.tmp 70) (.tmp 86) 38 rfl X7.heap.size 3 iM _ 1 8 Tryz.underlying38 hiM zM0 zM1 zM2 rfl (by decide) _ n _ k70 hrw ⟨q, 0, none⟩ 1 [.int .i64 (kindAt v s)] k86 rfl (World.news_of_block hq) (by simp [Value.oneCell']) (by unfold maxLen; omega) (by omega) (Nat.le_trans HLOW4.out.size hbw.size) fun gg cap W8 hown hgr => ?_
            exact hJ.other rfl (fun j d v h => by intro e; cases e; exact (tab16_off h).2.1 rfl) (by simp) (fun e => by rw [more_at] at e; cases e) (fun _ => ⟨gg, cap, W, hbw0, hown, hgr, laid_eq, fun e => by rw [more_off (by decide), h18] at e; cases e⟩)
          · intro ρ W L hc hf hL hd hcl hJ
            have h17 : L 17 = true := hd ⟨17, .data⟩ (by simp) rfl
            obtain ⟨gg, cap, W16, hbw0, hown, hgr, e87, -⟩ := hJ.behind h17
            have k87 : ρ (.tmp 87) = .slice (some ⟨gg, 0, none⟩) (n + 1) cap := e87
            refine does_value (v := .slice (some ⟨gg, 0, none⟩) (n + 1) cap) (w' := W) ?_ (hJ.other rfl (fun j d v h => by intro e; cases e; exact (tab16_off h).2.2 rfl) (by simp) (fun e => by rw [more_off (by decide), h17] at e; cases e) (fun _ => ⟨gg, cap, W16, hbw0, hown, hgr, by rw [laid_ne (by simp)]; exact e87, fun _ => laid_eq⟩))
            clear hc hf hL hd hcl hJ
            go_simp
          · intro c a' w' _ hE
            exact hE.elim
          · rintro ⟨tm, df⟩ w' hsz hdf ⟨L, hL, hJ⟩ hold
            simp only at hdf hsz
            subst hdf
            obtain ⟨gg, cap, W16, hbw0, hown, hgr, -, h18⟩ := hJ.behind (hL 17 (by decide))
            have e12 : tm.getD 12 undef = .slice (some ⟨gg, 0, none⟩) (n + 1) cap := h18 (hL 18 (by decide))
            have VX := hide (Vr.step HLOW4.out HR14.out HR24.out HLEN.out ((below_drew w4).trans hbw0) hown hgr)
            rw [← HAD.out, ← HT.out] at VX
            have htm := frame_keep1 70 87 12 (by kernel_rfl) hsz hold
            simp only [zs, Nat.reduceLT, Nat.reduceAdd, true_or, or_true, or_self, false_and, ne_eq, Nat.reduceEqDiff, not_false_eq_true, not_true_eq_false, and_self, and_false, if_true, if_false, e12] at htm
            rw [htm]
            clear htm hJ hL hold hsz hown hgr hbw0 h18 e12 b0 b1 kc4 sc4 HFZ
            generalize tm.getD 70 undef = x70
            generalize tm.getD 71 undef = x71
            generalize tm.getD 72 undef = x72
            generalize tm.getD 73 undef = x73
            generalize tm.getD 74 undef = x74
            generalize tm.getD 75 undef = x75
            generalize tm.getD 76 undef = x76
            generalize tm.getD 77 undef = x77
            generalize tm.getD 78 undef = x78
            generalize tm.getD 79 undef = x79
            generalize tm.getD 80 undef = x80
            generalize tm.getD 81 undef = x81
            generalize tm.getD 82 undef = x82
            generalize tm.getD 83 undef = x83
            generalize tm.getD 84 undef = x84
            generalize tm.getD 85 undef = x85
            generalize tm.getD 86 undef = x86
            generalize tm.getD 87 undef = x87
            clear tm
            go_wp2_with fail
            go_roundw
            case rel => exact ⟨i + 1, n + 1, _, _, _, _, by omega, by go_num, rfl, rfl, VX⟩
            case measure => simp [intOf]; omega
    · have hin : i = (seenM t).length := by omega
      have HNN : Hid (((seenM t).take i).foldl addN [] = v.names) := hide (by rw [hin, List.take_length, HNM.out])
      have hvl : v.length = n := by
        have h1 := VR.out.len
        rw [HNN.out] at h1
        unfold Scope.names at h1
        simpa using h1
      have HR := hide VR.out
      rw [HNN.out] at HR
      have HK := hide (kinds_of HSIM.out.nod)
      have HVL := hide hvl
      clear hin hvl
      go_wp2_with fail
      go_ret3
      refine ⟨VB.out.low.trans (HR.out.low.mono VB.out.low.size), .inr (.inr ⟨HC.out, v, _, _, by rw [HVM.out, HPV.out], rfl, ?_, ?_⟩)⟩
      · rw [HVL.out]
        exact ownsRow_le9 HR.out.r1 VB.out.low.size
      · rw [HVL.out, ← HK.out]
        exact ownsRow_le9 HR.out.r2 VB.out.low.size
end Go.Proofs.YtfnobccminhjpaaGreat
