/- Order; Index, Clone. -/
import Derived.Test.YtbdlgglbcaoakaaGreatPrLwf
import Derived.Lib.SliceRun
namespace Go.Proofs.YtbdlgglbcaoakaaGreat.Pr
open Go.RowKit

set_option maxRecDepth 100000 in
set_option maxHeartbeats 3200000 in
theorem order_any {w : World} {next : List (List Int)} {a : Option Addr} {c : Nat} (h : Lists w.heap.size w next (.slice a next.length c)) (hn : next.length ≤ 1048576) (ht : total next ≤ 1048576) :
    Calls Tryz.prog 16 #[.slice a next.length c] w fun e w' => ∃ out, Kahn next out ∧ KMax next out ∧ Below w.heap.size w w' ∧ ((out.length < next.length ∧ e = .returned (.tuple #[.slice none 0 0, .bool false])) ∨ (out.length = next.length ∧ ∃ ov, e = .returned (.tuple #[ov, .bool true]) ∧ w'.ownsRow w.heap.size 3 1 ov out.length (ints (zn out)))) := by
  have C1 := hide (lowest_any h hn ht)
  obtain ⟨n, hnn⟩ : ∃ n, next.length = n := ⟨_, rfl⟩
  have HNN := hide hnn
  rw [hnn] at hn C1 ⊢
  clear h hnn
  go_enter Tryz.func16, Tryz.ntmps16
  go_upto_region 2 with (go_at_call 25; refine C1.out.mono ?_; rintro e w1 ⟨out, ov, rfl, h1, h2, h3, h4⟩; obtain ⟨oa, oc, rfl⟩ := owns_slice h3; have H1 := hide h1; have H2 := hide h2; have H3 := hide h3; have H4 := hide h4; clear h1 h2 h3 h4)
  have hle : out.length ≤ n := by have := kahn_len H1.out; rw [HNN.out] at this; exact this
  obtain ⟨K, hK⟩ : ∃ K, out.length = K := ⟨_, rfl⟩
  have HK := hide hK
  rw [hK] at hle H3 ⊢
  clear hK
  by_cases hlt : K < n
  · go_wp2_with fail
    go_ret2
    exact ⟨out, H1.out, H2.out, H4.out, .inl ⟨by rw [HK.out]; exact hlt, rfl⟩⟩
  · go_wp2_with fail
    go_ret2
    exact ⟨out, H1.out, H2.out, H4.out, .inr ⟨by rw [HK.out]; omega, _, rfl, by rw [HK.out]; exact H3.out⟩⟩
set_option maxRecDepth 100000 in
set_option maxHeartbeats 3200000 in
theorem idx_any {w : World} {a : Option Addr} {l : List Int} {c : Nat} (h : At1 w a (ints l)) (hl : l.length ≤ 140737488351232) {s : Int} (hs : s ∈ l) :
    Calls Tryz.prog 88 #[.slice a l.length c, .int .i64 s] w fun e w' => ∃ i : Nat, e = .returned (.int .i64 i) ∧ l[i]? = some s ∧ w' = w := by
  have HA := hide h
  have HS := hide hs
  clear h hs
  go_enter Tryz.func88, Tryz.ntmps88
  go_wp2_with fail
  go_loop [8] (fun x => ∃ k : Nat, k ≤ l.length ∧ x = .int .i64 k ∧ Hid (s ∉ l.take k)) (fun x => l.length - (intOf x).toNat)
  case atStart => exact ⟨0, by omega, rfl, hide (by simp)⟩
  case round =>
    obtain ⟨k, hk, rfl, HK⟩ := hrel
    by_cases hlt : k < l.length
    · obtain ⟨g, o, rfl, kc⟩ := HA.out.int hlt
      by_cases he : l.getD k 0 = s
      · have HP : Hid (l[k]? = some s) := hide (by rw [List.getD_eq_getElem?_getD, List.getElem?_eq_getElem hlt] at he; rw [List.getElem?_eq_getElem hlt]; simpa using he)
        rw [he] at kc
        clear he HK
        go_wp2_with fail
        go_ret
        exact ⟨k, rfl, HP.out, rfl⟩
      · have HP := hide (take_step hlt HK.out he)
        generalize l.getD k 0 = x at kc he
        have hbb : (s == x) = false := beq_eq_false_iff_ne.2 (fun e => he e.symm)
        clear he HK
        go_wp2_with fail
        go_round
        case rel => exact ⟨k + 1, by omega, by go_num, HP⟩
        case measure => simp [intOf]; omega
    · exfalso
      have := HK.out
      rw [List.take_of_length_le (by omega)] at this
      exact this HS.out
theorem ones (l : List Int) : ∀ u ∈ ints l, u.oneCell' = true := by
  intro u hu
  unfold ints at hu
  obtain ⟨x, _, rfl⟩ := List.mem_map.1 hu
  rfl
set_option maxRecDepth 100000 in
set_option maxHeartbeats 3200000 in
theorem clone_any {w : World} {g o c : Nat} {l : List Int} (h : ∀ i u, (ints l)[i]? = some u → w.cell? ⟨g, o + i, none⟩ = some u) (hl : l.length ≤ 1048576) :
    Calls Tryz.prog 87 #[.slice (some ⟨g, o, none⟩) l.length c] w fun e w' => ∃ v, e = .returned v ∧ w'.ownsRow w.heap.size 3 1 v l.length (ints l) ∧ Below w.heap.size w w' := by
  obtain ⟨iI, hiI, zI0, zI1, zI2⟩ := info_parts infoI
  have qT : ∀ (w : World) (a : Option Addr) (n c n' c' : Nat), (binOp .eql 57 (.slice a n c) (.slice none n' c')).run Tryz.prog w = .ok (.bool a.isNone) w := fun w a n c n' c' => Lib.run_eql_slice_nil w _ _ a n c n' c' Tryz.underlying57
  have hA := below_new w (.cells #[] 3)
  have HE : Hid ((w.alloc (.cells #[] 3)).ownsRow w.heap.size 3 1 (.slice (some ⟨w.heap.size, 0, none⟩) 0 0) 0 []) := hide ⟨rfl, .inr ⟨w.heap.size, 0, #[], rfl, Nat.le_refl _, heap_alloc_new w _, Nat.le_refl _, Nat.zero_le _, rfl, rfl⟩⟩
  have HS : Hid (Src Tryz.prog 1 57 (.slice (some ⟨g, o, none⟩) l.length c) l.length (ints l) (w.alloc (.cells #[] 3))) := hide (Src.ofSlice _ Tryz.underlying57 _ _ _ _ (by rw [ints_len]; omega) (fun j u hu => by
    rw [Addr.add_lit]
    have h1 := h j u hu
    exact (World.cell?_of_block (hA.block g (World.block_lt_of_cell? w _ h1))).trans h1) (ones l))
  have HSZ : Hid ((w.alloc (.cells #[] 3)).heap.size = w.heap.size + 1) := hide (by simp)
  have HA := hide hA
  obtain ⟨m, hm⟩ : ∃ m, l.length = m := ⟨_, rfl⟩
  rw [hm] at hl HS ⊢
  clear h hA hm
  go_enter Tryz.func87, Tryz.ntmps87
  go_wp2_with (at_builtin; go_must (refine wpList_append_src _ (by rw [HSZ.out]; omega) (by rfl) _ _ 57 57 rfl 3 iI _ 1 8 Tryz.underlying57 hiI zI0 zI1 zI2 rfl (.slice (some ⟨w.heap.size, 0, none⟩) 0 0) 0 [] rfl HE.out (.slice (some ⟨g, o, none⟩) m c) m (ints l) rfl HS.out (by unfold maxLen; omega) (by omega) ?_); intro v4 w4 hown4 hg4 hat4; rw [Nat.zero_add, List.nil_append] at hown4; have HO4 := hide hown4; have HB4 : Hid (Below w.heap.size w w4) := hide (HA.out.trans ((Fr.of_grown (Z := fun k => w.heap.size ≤ k) hg4 (fun k e => by cases e; exact Nat.le_refl _)).below fun k hk => ⟨by rw [HSZ.out]; omega, by omega⟩)); clear hown4 hg4 hat4)
  go_ret
  exact ⟨_, rfl, HO4.out, HB4.out⟩
end Go.Proofs.YtbdlgglbcaoakaaGreat.Pr
/- A walk, deep first, that looks for a circle; no Go in sight. -/
namespace Go.Proofs.YtbdlgglbcaoakaaGreat.Pr

/-- What is shut lies on no circle, by ranks. -/
def Shut (next : List (List Int)) (st : List Int) : Prop := ∃ (rk : Nat → Nat) (m : Nat), ∀ p, p < next.length → st.getD p 0 = 2 → rk p < m ∧ ∀ q, Ed next p q → st.getD q 0 = 2 ∧ rk q < rk p
/-- The walk: the way, the states, how many were tried. -/
structure Df (next : List (List Int)) (way : List Nat) (st tr : List Int) : Prop where
  ls : st.length = next.length
  lt : tr.length = next.length
  s3 : ∀ p, p < next.length → st.getD p 0 = 0 ∨ st.getD p 0 = 1 ∨ st.getD p 0 = 2
  wl : ∀ p ∈ way, p < next.length
  nd : way.Nodup
  op : ∀ p, p < next.length → (st.getD p 0 = 1 ↔ p ∈ way)
  ch : ∀ i a b, way[i]? = some a → way[i + 1]? = some b → Ed next a b
  sh : Shut next st
  t0 : ∀ p, p < next.length → 0 ≤ tr.getD p 0 ∧ tr.getD p 0 ≤ (next.getD p []).length
  tn : ∀ p, p < next.length → st.getD p 0 = 0 → tr.getD p 0 = 0
  td : ∀ i a, way[i]? = some a → ∀ q : Nat, q < next.length → (q : Int) ∈ (next.getD a []).take (tr.getD a 0).toNat → st.getD q 0 = 2 ∨ way[i + 1]? = some q
section
variable {next : List (List Int)} {way : List Nat} {st tr : List Int}
theorem Df.fresh : Df next [] (List.replicate next.length 0) (List.replicate next.length 0) := by
  have h0 : ∀ p, (List.replicate next.length (0 : Int)).getD p 0 = 0 := fun p => by
    by_cases h : p < next.length
    · simp [List.getD, h]
    · rw [List.getD_eq_getElem?_getD, List.getElem?_eq_none (by simp; omega)]; rfl
  refine ⟨by simp, by simp, fun p _ => .inl (h0 p), by simp, List.nodup_nil, fun p _ => by rw [h0]; simp, fun i a b h => by simp at h, ⟨fun _ => 0, 0, fun p _ h => by rw [h0] at h; cases h⟩, fun p _ => by rw [h0]; omega, fun p _ _ => h0 p, fun i a h => by simp at h⟩
/-- A new place comes onto the way. -/
theorem Df.come (h : Df next way st tr) {o : Nat} (ho : o < next.length) (h0 : st.getD o 0 = 0) (he : ∀ a, way[way.length - 1]? = some a → Ed next a o)
    (htd : ∀ a, way[way.length - 1]? = some a → ∀ q : Nat, q < next.length → (q : Int) ∈ (next.getD a []).take (tr.getD a 0).toNat → st.getD q 0 = 2 ∨ q = o) (htd2 : ∀ i a, way[i]? = some a → i + 1 < way.length → ∀ q : Nat, q < next.length → (q : Int) ∈ (next.getD a []).take (tr.getD a 0).toNat → st.getD q 0 = 2 ∨ way[i + 1]? = some q) : Df next (way ++ [o]) (st.set o 1) tr := by
  have hg := fun k => set_get (A := st) (k := o) (j := k) (v := 1) (by rw [h.ls]; exact ho)
  have hnw : o ∉ way := fun hm => by have := (h.op o ho).2 hm; omega
  refine ⟨by rw [List.length_set]; exact h.ls, h.lt, fun p hp => ?_, fun p hp => ?_, ?_, fun p hp => ?_, fun i a b ha hb => ?_, ?_, h.t0, fun p hp h1 => ?_, fun i a ha q hq hm => ?_⟩
  · rw [hg]; split
    · exact .inr (.inl rfl)
    · exact h.s3 p hp
  · rcases List.mem_append.1 hp with hp | hp
    · exact h.wl p hp
    · simp at hp; omega
  · rw [List.nodup_append]
    refine ⟨h.nd, by simp, fun a ha b hb e => ?_⟩
    simp at hb
    exact hnw (hb ▸ e ▸ ha)
  · rw [hg, List.mem_append]
    by_cases e : p = o
    · rw [if_pos e]; simp [e]
    · rw [if_neg e, h.op p hp]; simp [e]
  · by_cases h1 : i + 1 < way.length
    · rw [List.getElem?_append_left (by omega)] at ha
      rw [List.getElem?_append_left h1] at hb
      exact h.ch i a b ha hb
    · have hl := (List.getElem?_eq_some_iff.1 hb).1
      simp at hl
      have e : i + 1 = way.length := by omega
      rw [List.getElem?_append_left (by omega)] at ha
      rw [e] at hb
      simp at hb
      subst hb
      exact he a (by rw [show way.length - 1 = i by omega]; exact ha)
  · obtain ⟨rk, m, hr⟩ := h.sh
    refine ⟨rk, m, fun p hp h2 => ?_⟩
    rw [hg] at h2
    have hpo : p ≠ o := fun e => by rw [if_pos e] at h2; cases h2
    rw [if_neg hpo] at h2
    obtain ⟨a1, a2⟩ := hr p hp h2
    refine ⟨a1, fun q hq => ?_⟩
    obtain ⟨b1, b2⟩ := a2 q hq
    refine ⟨?_, b2⟩
    rw [hg, if_neg (fun e => by rw [e] at b1; omega)]
    exact b1
  · rw [hg] at h1
    by_cases e : p = o
    · rw [if_pos e] at h1; cases h1
    · rw [if_neg e] at h1; exact h.tn p hp h1
  · have hst : st.getD q 0 = 2 → (st.set o 1).getD q 0 = 2 := fun h2 => by rw [hg, if_neg (fun e => by rw [e] at h2; omega)]; exact h2
    have hl := (List.getElem?_eq_some_iff.1 ha).1
    simp at hl
    by_cases h1 : i < way.length
    · rw [List.getElem?_append_left h1] at ha
      by_cases h2 : i + 1 < way.length
      · rw [List.getElem?_append_left h2]
        rcases htd2 i a ha h2 q hq hm with h3 | h3
        · exact .inl (hst h3)
        · exact .inr h3
      · have e : i + 1 = way.length := by omega
        rcases htd a (by rw [show way.length - 1 = i by omega]; exact ha) q hq hm with h3 | h3
        · exact .inl (hst h3)
        · right; rw [e, h3]; simp
    · have e : i = way.length := by omega
      subst e
      simp at ha
      subst ha
      rw [h.tn o ho h0] at hm
      simp at hm
/-- One more was tried at the top, and it was shut, or no place. -/
theorem Df.tried (h : Df next way st tr) {p : Nat} {z : Int} (hp : way[way.length - 1]? = some p) {t : Nat} (ht : tr.getD p 0 = (t : Int)) (hz : (next.getD p [])[t]? = some z) (hs : inN z next.length = false ∨ ∃ q : Nat, z = (q : Int) ∧ st.getD q 0 = 2) : Df next way st (tr.set p (tr.getD p 0 + 1)) := by
  have hpl := h.wl p (List.mem_of_getElem? hp)
  have hg := fun k => set_get (A := tr) (k := p) (j := k) (v := tr.getD p 0 + 1) (by rw [h.lt]; exact hpl)
  have htl := (List.getElem?_eq_some_iff.1 hz).1
  have hop := (h.op p hpl).2 (List.mem_of_getElem? hp)
  refine ⟨h.ls, by rw [List.length_set]; exact h.lt, h.s3, h.wl, h.nd, h.op, h.ch, h.sh, fun k hk => ?_, fun k hk h0 => ?_, fun i a ha q hq hm => ?_⟩
  · rw [hg]; split
    · next e => rw [e]; omega
    · exact h.t0 k hk
  · rw [hg, if_neg (fun e => by rw [e] at h0; omega)]; exact h.tn k hk h0
  · rw [hg] at hm
    by_cases e : a = p
    · rw [if_pos e, ht, show ((t : Int) + 1).toNat = t + 1 by omega, e, take_snoc hz, List.mem_append] at hm
      rcases hm with hm | hm
      · have := h.td i a ha q hq (by rw [e, ht]; simpa using hm)
        exact this
      · simp at hm
        rcases hs with hs | ⟨k, hk, hs⟩
        · have : inN z next.length = true := inN_iff.2 (by omega)
          rw [hs] at this; cases this
        · have : q = k := by omega
          subst this
          exact .inl hs
    · rw [if_neg e] at hm
      exact h.td i a ha q hq hm
/-- A new place comes, behind one more that was tried. -/
theorem Df.go (h : Df next way st tr) {p o : Nat} (hp : way[way.length - 1]? = some p) {t : Nat} (ht : tr.getD p 0 = (t : Int)) (hz : (next.getD p [])[t]? = some (o : Int)) (ho : o < next.length) (h0 : st.getD o 0 = 0) : Df next (way ++ [o]) (st.set o 1) (tr.set p (tr.getD p 0 + 1)) := by
  have hpl := h.wl p (List.mem_of_getElem? hp)
  have hg := fun k => set_get (A := tr) (k := p) (j := k) (v := tr.getD p 0 + 1) (by rw [h.lt]; exact hpl)
  have htl := (List.getElem?_eq_some_iff.1 hz).1
  have hop := (h.op p hpl).2 (List.mem_of_getElem? hp)
  have hwl : way.length - 1 < way.length := (List.getElem?_eq_some_iff.1 hp).1
  have hpo : p ≠ o := fun e => by subst e; omega
  -- the same walk with one more tried, the top's promise aside
  have hg2 := fun k => set_get (A := st) (k := o) (j := k) (v := 1) (by rw [h.ls]; exact ho)
  have hbase := h.come ho h0 (fun a ha => by rw [hp] at ha; cases ha; exact ⟨ho, List.mem_of_getElem? hz⟩) (fun a ha q hq hm => by
    rw [hp] at ha; cases ha
    rcases h.td _ _ hp q hq hm with h3 | h3
    · exact .inl h3
    · exact absurd (List.getElem?_eq_some_iff.1 h3).1 (by omega)) (fun i a ha hi q hq hm => h.td i a ha q hq hm)
  refine ⟨hbase.ls, by rw [List.length_set]; exact h.lt, hbase.s3, hbase.wl, hbase.nd, hbase.op, hbase.ch, hbase.sh, fun k hk => ?_, fun k hk h1 => ?_, fun i a ha q hq hm => ?_⟩
  · rw [hg]; split
    · next e => rw [e]; omega
    · exact h.t0 k hk
  · rw [hg, if_neg (fun e => ?_)]
    · exact hbase.tn k hk h1
    · rw [e, hg2, if_neg hpo] at h1; omega
  · rw [hg] at hm
    by_cases e : a = p
    · have hi : i = way.length - 1 := by
        have hpp : (way ++ [o])[way.length - 1]? = some p := by rw [List.getElem?_append_left hwl]; exact hp
        exact nd_inj hbase.nd (e ▸ ha) hpp
      rw [if_pos e, ht, show ((t : Int) + 1).toNat = t + 1 by omega, e, take_snoc hz, List.mem_append] at hm
      rcases hm with hm | hm
      · exact hbase.td i a ha q hq (by rw [e, ht]; simpa using hm)
      · simp at hm
        right
        rw [hi, show way.length - 1 + 1 = way.length by omega]
        simp
        omega
    · rw [if_neg e] at hm
      exact hbase.td i a ha q hq hm
/-- The top is shut. -/
theorem Df.shut (h : Df next way st tr) {p : Nat} (hp : way[way.length - 1]? = some p) (ht : (next.getD p []).length ≤ (tr.getD p 0).toNat) : Df next (way.take (way.length - 1)) (st.set p 2) tr := by
  have hpl := h.wl p (List.mem_of_getElem? hp)
  have hg := fun k => set_get (A := st) (k := p) (j := k) (v := 2) (by rw [h.ls]; exact hpl)
  have hwl : way.length - 1 < way.length := (List.getElem?_eq_some_iff.1 hp).1
  have hop := (h.op p hpl).2 (List.mem_of_getElem? hp)
  have hsp : way.take (way.length - 1) ++ [p] = way := by rw [← take_snoc hp, show way.length - 1 + 1 = way.length by omega, List.take_length]
  have hall : ∀ q : Nat, Ed next p q → st.getD q 0 = 2 := fun q hq => by
    rcases h.td _ _ hp q hq.1 (by rw [List.take_of_length_le ht]; exact hq.2) with h3 | h3
    · exact h3
    · exact absurd (List.getElem?_eq_some_iff.1 h3).1 (by omega)
  have hst : ∀ q, st.getD q 0 = 2 → (st.set p 2).getD q 0 = 2 := fun q h2 => by rw [hg]; split; rfl; exact h2
  have hmem : ∀ q, q ∈ way.take (way.length - 1) ↔ q ∈ way ∧ q ≠ p := fun q => by
    have hnd := h.nd
    rw [← hsp, List.nodup_append] at hnd
    constructor
    · intro hq
      exact ⟨List.mem_of_mem_take hq, fun e => hnd.2.2 q hq p (by simp) e⟩
    · rintro ⟨hq, hne⟩
      rw [← hsp, List.mem_append] at hq
      rcases hq with hq | hq
      · exact hq
      · simp at hq; exact absurd hq hne
  refine ⟨by rw [List.length_set]; exact h.ls, h.lt, fun k hk => ?_, fun k hk => h.wl k (List.mem_of_mem_take hk), h.nd.sublist (List.take_sublist _ _), fun k hk => ?_, fun i a b ha hb => ?_, ?_, h.t0, fun k hk h0 => ?_, fun i a ha q hq hm => ?_⟩
  · rw [hg]; split
    · exact .inr (.inr rfl)
    · exact h.s3 k hk
  · rw [hg, hmem]
    by_cases e : k = p
    · rw [if_pos e]; simp [e]
    · rw [if_neg e, h.op k hk]; simp [e]
  · have hb' := (List.getElem?_eq_some_iff.1 hb).1
    rw [List.length_take] at hb'
    rw [List.getElem?_take_of_lt (by omega)] at ha hb
    exact h.ch i a b ha hb
  · obtain ⟨rk, m, hr⟩ := h.sh
    refine ⟨fun x => if x = p then m else rk x, m + 1, fun k hk h2 => ?_⟩
    rw [hg] at h2
    by_cases e : k = p
    · subst e
      show (if k = k then m else rk k) < m + 1 ∧ ∀ q, Ed next k q → (st.set k 2).getD q 0 = 2 ∧ (if q = k then m else rk q) < (if k = k then m else rk k)
      rw [if_pos rfl]
      refine ⟨by omega, fun q hq => ?_⟩
      have h3 := hall q hq
      refine ⟨hst q h3, ?_⟩
      have hqp : q ≠ k := fun e => by rw [e] at h3; omega
      rw [if_neg hqp]
      exact (hr q hq.1 h3).1
    · rw [if_neg e] at h2
      show (if k = p then m else rk k) < m + 1 ∧ ∀ q, Ed next k q → (st.set p 2).getD q 0 = 2 ∧ (if q = p then m else rk q) < (if k = p then m else rk k)
      rw [if_neg e]
      obtain ⟨a1, a2⟩ := hr k hk h2
      refine ⟨by omega, fun q hq => ?_⟩
      obtain ⟨b1, b2⟩ := a2 q hq
      refine ⟨hst q b1, ?_⟩
      have hqp : q ≠ p := fun e => by rw [e] at b1; omega
      rw [if_neg hqp]
      exact b2
  · rw [hg] at h0
    by_cases e : k = p
    · rw [if_pos e] at h0; cases h0
    · rw [if_neg e] at h0; exact h.tn k hk h0
  · have ha' := (List.getElem?_eq_some_iff.1 ha).1
    rw [List.length_take] at ha'
    rw [List.getElem?_take_of_lt (by omega)] at ha
    rcases h.td i a ha q hq hm with h3 | h3
    · exact .inl (hst q h3)
    · by_cases h4 : i + 1 < way.length - 1
      · right; rw [List.getElem?_take_of_lt h4]; exact h3
      · have e : i + 1 = way.length - 1 := by omega
        rw [e, hp] at h3
        cases h3
        left; rw [hg, if_pos rfl]
/-- A circle is found. -/
theorem Df.found (h : Df next way st tr) {p o i : Nat} (hp : way[way.length - 1]? = some p) (he : Ed next p o) (hi : way[i]? = some o) : IsCyc next (way.drop i) := by
  have hil := (List.getElem?_eq_some_iff.1 hi).1
  refine cyc_of (a := o) (z := p) (h.nd.sublist (List.drop_sublist _ _)) (fun a ha => h.wl a (List.mem_of_mem_drop ha)) (by rw [List.getElem?_drop]; simpa using hi) ?_ (fun k a b ha hb => ?_) he
  · rw [List.getElem?_drop, List.length_drop, show i + (way.length - i - 1) = way.length - 1 by omega]
    exact hp
  · rw [List.getElem?_drop] at ha hb
    exact h.ch (i + k) a b ha (by rw [show i + k + 1 = i + (k + 1) by omega]; exact hb)
/-- Where all is shut there is no circle. -/
theorem Df.acy (h : Df next [] st tr) (ha : ∀ p, p < next.length → st.getD p 0 ≠ 0) : Acy next := by
  obtain ⟨rk, m, hr⟩ := h.sh
  refine ⟨rk, fun a b he => ?_⟩
  have hal := he.lt
  have h2 : st.getD a 0 = 2 := by
    rcases h.s3 a hal with h3 | h3 | h3
    · exact absurd h3 (ha a hal)
    · have := (h.op a hal).1 h3; simp at this
    · exact h3
  exact ((hr a hal h2).2 b he).2
end
end Go.Proofs.YtbdlgglbcaoakaaGreat.Pr
