/- written, Encode. -/
import Derived.Test.YtdmnoeooljofcaaPut
import Derived.Lib.SlBytesConst
namespace Go.Proofs.Ytdmnoeooljofcaa
open Go.RowKit

theorem numsB_len : ∀ {l : List Int}, (numsB l).length ≤ 10 * l.length
  | [] => by simp [numsB]
  | z :: l => by
    have h1 := numB_len z
    have h2 := numsB_len (l := l)
    show (numB z ++ numsB l).length ≤ _
    rw [List.length_append, List.length_cons]
    omega
theorem listB_len {l : List Int} : (listB l).length ≤ 10 * (l.length + 1) := by
  have h1 := numB_len l.length
  have h2 := numsB_len (l := l)
  unfold listB
  rw [List.length_append]
  omega
theorem foesB_len : ∀ {F : List (List Int)} {i : Nat}, (∀ l ∈ F, l.length ≤ 64) → (foesB i F).length ≤ 650 * F.length
  | [], i, _ => by simp [foesB]
  | l :: F, i, h => by
    have h1 := listB_len (l := aboveM i l)
    have h2 := above_len (i := i) (l := l)
    have h3 := h l (by simp)
    have h4 := foesB_len (F := F) (i := i + 1) fun l hl => h l (by simp [hl])
    unfold foesB
    rw [List.length_append, List.length_cons]
    omega
theorem flatB_len {α : Type} {f : α → List Int} {m : Nat} : ∀ {l : List α}, (∀ x ∈ l, (f x).length ≤ m) → (l.flatMap f).length ≤ m * l.length
  | [], _ => by simp
  | x :: l, h => by
    have h1 := h x (by simp)
    have h2 := flatB_len (l := l) fun y hy => h y (by simp [hy])
    rw [List.flatMap_cons, List.length_append, List.length_cons, Nat.mul_add, Nat.mul_one]
    omega
theorem enc_len {T : Th} (h : OkT T) : (encM T).length ≤ 1000000000 := by
  have h1 := numB_len T.lits
  have h2 := numB_len T.rules.length
  have h3 := foesB_len (F := T.foes) (i := 0) fun l hl => by
    obtain ⟨i, hi, rfl⟩ := List.mem_iff_getElem.1 hl
    exact (h.foe i _ (List.getElem?_eq_getElem hi)).1
  have h4 := flatB_len (f := ruleB) (m := 190) (l := T.rules) fun r hr => by
    obtain ⟨_, _, _, _, h5, _⟩ := h.rule r hr
    have a1 := numB_len r.kind
    have a2 := numB_len r.head
    have a3 := listB_len (l := r.body)
    unfold ruleB
    simp only [List.length_append]
    omega
  have h5 := flatB_len (f := listB) (m := 40970) (l := T.beats) fun l hl => by
    obtain ⟨i, hi, rfl⟩ := List.mem_iff_getElem.1 hl
    have a1 := rises_len (h.beat i _ (List.getElem?_eq_getElem hi)).1
    have a2 := listB_len (l := T.beats[i])
    have := h.rl
    omega
  have f1 := h.fl
  have f2 := h.l1
  have f3 := h.rl
  have f4 := h.bl
  unfold encM
  simp only [List.length_append]
  have : markB.length = 4 := rfl
  have e1 : 650 * T.foes.length ≤ 650 * 4096 := Nat.mul_le_mul_left _ (by omega)
  have e2 : 190 * T.rules.length ≤ 190 * 4096 := Nat.mul_le_mul_left _ (by omega)
  have e3 : 40970 * T.beats.length ≤ 40970 * 4096 := Nat.mul_le_mul_left _ (by omega)
  omega
/-- What has been written. -/
structure Wrt (w : World) (v0 v1 v2 v3 : Value) (acc : List Int) (a : Option Addr) (c : Nat) (wr : World) : Prop where
  low : Below w.heap.size w wr
  bx : wr.heap[w.heap.size]? = some (.cells #[v0, v1, v2, v3] 27 (0, 0))
  row : wr.ownsRow (w.heap.size + 1) 5 1 (.slice a acc.length c) acc.length (byts acc)
section
variable {w wr w2 : World} {v0 v1 v2 v3 : Value} {acc zs : List Int} {a a2 : Option Addr} {c c2 : Nat}
theorem Wrt.size (h : Wrt w v0 v1 v2 v3 acc a c wr) : w.heap.size + 1 ≤ wr.heap.size := loc_lt h.bx
theorem Wrt.told (h : Wrt w v0 v1 v2 v3 acc a c wr) (ho : w2.ownsRow (w.heap.size + 1) 5 1 (.slice a2 zs.length c2) zs.length (byts zs)) (hf : Fr (fun k => Value.ownBlock (.slice a acc.length c) = some k) wr w2) : Wrt w v0 v1 v2 v3 zs a2 c2 w2 := by
  have hs := h.size
  refine ⟨h.low.trans (hf.below fun k hk => ⟨by omega, fun e => by have := (h.row.lt k e).1; omega⟩), (hf.block _ (loc_lt h.bx) fun e => by have := (h.row.lt _ e).1; omega).trans h.bx, ho⟩
theorem Wrt.call (h : Wrt w v0 v1 v2 v3 acc a c wr) (hb : Below wr.heap.size wr w2) : Wrt w v0 v1 v2 v3 acc a c w2 :=
  ⟨h.low.trans (hb.mono h.low.size), (hb.block _ (loc_lt h.bx)).trans h.bx, owns_keep h.row fun g hg => hb.block g (owns_lt h.row hg)⟩
/-- A box of another kind stays. -/
theorem Wrt.stay (h : Wrt w v0 v1 v2 v3 acc a c wr) (hf : Fr (fun k => Value.ownBlock (.slice a acc.length c) = some k) wr w2) {q T : Nat} {cs : Array Value} (hq : wr.heap[q]? = some (.cells cs T (0, 0))) (hT : 5 ≠ T) : w2.heap[q]? = some (.cells cs T (0, 0)) :=
  (hf.block q (loc_lt hq) (own_ne (owns_down h.row (Nat.zero_le _)) hq hT)).trans hq
end
/-- Appending to a row that is full. -/
theorem wpList_append_full {P : Program} (w : World) {base : Nat} (hbase : base ≤ w.heap.size) {ops : Array Oper} {rest : List Oper} {o : Oper} {a : Act} {Q : Exit → Act → World → Prop} (hgd : Region.wanted o (yielded ops a.tmps) = true) (s x : Operand) (t tx : TypeId)
    (ho : o.op = .call { callee := .builtin .append, args := #[s, x], argTypes := #[t, tx] }) (e : TypeId) (i : TypeInfo) (z : Value) (k b : Nat) (ht : P.underlying t = some (.slice e)) (hi : P.info? e = some i) (hz : i.zero = some z) (hs1 : i.size = k) (hb1 : i.bytes = b) (hzc : z.cells.size = k)
    (g n : Nat) (xs : List Value) (hxl : xs.length = n * k) (hs : a.eval s = .slice (some ⟨g, 0, none⟩) n n) (hcells : ∀ j u, xs[j]? = some u → w.cell? ((⟨g, 0, none⟩ : Addr).add j) = some u) (y : Value) (m : Nat) (news : List Value) (hx : a.eval x = y) (hsrc : Src P k tx y m news w) (hm : 0 < m) (h63 : n + m ≤ maxLen) (hby : (n + m) * b ≤ 140737488355328)
    (h : ∀ v' w', w'.ownsRow base e k v' (n + m) (xs ++ news) → w.grownBy w' none → wpList P ops Q rest (a.put o.dst v') w') : wpList P ops Q (o :: rest) a w := by
  refine BigFrame.wpList_want hgd fun K hK => ?_
  have hsm : n + m ≤ 9223372036854775807 := by simp only [maxLen] at h63; omega
  have hnl : news.length = m * k := hsrc.newsLen
  have hsrc' : Src P i.size tx y m news w := by rw [hs1]; exact hsrc
  have hmb : (n + m) * i.bytes ≤ 140737488355328 := by rw [hb1]; exact hby
  have hold := run_firstCells_some (P := P) w.drew i.size n ⟨g, 0, none⟩ n n xs (by rw [hs1]; omega) (by simpa using hcells)
  have hr := run_append_grow_src (P := P) w t tx o.type e i z ht hi hz (some ⟨g, 0, none⟩) n n xs hold y m news hsrc' (by omega) (by omega) (growslice_fits (by omega) hmb)
  have hgr := grown_row hbase (w := w) (e := e) (old := n) hzc hxl hnl (by omega) none
  unfold Oper.wp execOp
  simp only [ho, resolve, invoke, builtin, Sem.run_bind, Sem.run_pure, Result.andThen_ok, List.map_toArray, List.map_cons, List.map_nil, hs, hx, hr]
  exact hK _ _ (h _ _ hgr.1 hgr.2)
set_option maxRecDepth 100000 in
set_option maxHeartbeats 6400000 in
theorem put_full {w : World} {B g n : Nat} {zs : List Int} (hl : zs.length = n) (hc : ∀ j u, (byts zs)[j]? = some u → w.cell? ((⟨g, 0, none⟩ : Addr).add j) = some u) (hgl : g < w.heap.size) (hB : B ≤ w.heap.size) {z : Int} (h0 : 0 ≤ z) (h1 : z < 9223372036854775808) (hn : n ≤ 1000000000) :
    Calls Try.prog 68 #[.slice (some ⟨g, 0, none⟩) n n, .int .i64 z] w fun e w' => ∃ a c, e = .returned (.slice a (zs ++ numB z).length c) ∧ w'.ownsRow B 5 1 (.slice a (zs ++ numB z).length c) (zs ++ numB z).length (byts (zs ++ numB z)) ∧ Below w.heap.size w w' := by
  obtain ⟨i0, hi, hz0, hz1, hz2⟩ := info_parts infoB
  have CU := hide (uint_any z w h0 (by omega))
  have HC := hide hc
  have HL := hide (numB_len z)
  have HP : Hid (0 < (numB z).length) := hide (uintB_ne 9 z)
  have hw : IntKind.u64.wrap z = z := by rw [IntKind.wrap_u64]; omega
  have HN := hide hl
  clear hc hl
  go_enter Try.func68, Try.ntmps68
  go_wp2_with (first | (go_at_call 75; refine CU.out.mono ?_; rintro _ w1 ⟨v1, rfl, hu, hb1⟩; obtain ⟨ua, uc, rfl⟩ := owns_slice hu; have HU := hide (src_own (zs := numB z) hu); have HB1 := hide hb1; clear hu hb1) | (at_builtin; go_must (refine wpList_append_full _ (Nat.le_trans hB HB1.out.size) (by rfl) _ _ 22 22 rfl 5 i0 _ 1 1 Try.underlying22 hi hz0 hz1 hz2 rfl g n (byts zs) (by rw [byts_len, HN.out, Nat.mul_one]) rfl (fun j u hu => by rw [Addr.add_lit]; exact (World.cell?_of_block (HB1.out.block g hgl)).trans (by have := HC.out j u hu; rwa [Addr.add_lit] at this)) _ _ (byts (numB z)) rfl HU.out HP.out (by have := HL.out; unfold numB at this; unfold maxLen; omega) (by have := HL.out; unfold numB at this; omega) ?_); intro v4 w4 hown4 hg4; obtain ⟨a4, c4, rfl⟩ := owns_slice hown4; have HO4 := hide hown4; have HG4 := hide (HB1.out.grown hg4 HB1.out.size (by simp)); clear hown4 hg4))
  go_ret
  refine ⟨a4, c4, ?_, ?_, HG4.out⟩
  · rw [List.length_append, HN.out]; rfl
  · rw [List.length_append, HN.out, byts_app]; exact HO4.out
theorem foes_step {F : List (List Int)} {k : Nat} {l : List Int} (h : F[k]? = some l) : foesB k (F.drop k) = listB (aboveM k l) ++ foesB (k + 1) (F.drop (k + 1)) := by rw [drop_at h]; rfl
theorem flat_step {α : Type} {f : α → List Int} {l : List α} {k : Nat} {x : α} (h : l[k]? = some x) : (l.drop k).flatMap f = f x ++ (l.drop (k + 1)).flatMap f := by rw [drop_at h]; rfl
set_option maxRecDepth 100000 in
set_option maxHeartbeats 12800000 in
theorem written_any {w : World} {T : Th} {fa ra ba : Option Addr} {fc rc bc : Nat} (h : TA w.heap.size w T fa fc ra rc ba bc) (hT : OkT T) :
    Calls Try.prog 55 #[tv T fa fc ra rc ba bc] w fun e w' => ∃ a c, e = .returned (.slice a (encM T).length c) ∧ w'.ownsRow w.heap.size 5 1 (.slice a (encM T).length c) (encM T).length (byts (encM T)) ∧ Below w.heap.size w w' := by
  have hB := below_new w (.cells #[.int .i64 T.lits, .slice fa T.foes.length fc, .slice ra T.rules.length rc, .slice ba T.beats.length bc] 27)
  have hX := heap_alloc_new w (.cells #[.int .i64 T.lits, .slice fa T.foes.length fc, .slice ra T.rules.length rc, .slice ba T.beats.length bc] 27)
  obtain ⟨E, hE⟩ : ∃ E, encM T = E := ⟨_, rfl⟩
  have HLen : Hid (E.length ≤ 1000000000) := hide (by rw [← hE]; exact enc_len hT)
  have HE0 : Hid (markB ++ (numB T.lits ++ (foesB 0 (T.foes.drop 0) ++ (numB T.rules.length ++ (T.rules.flatMap ruleB ++ T.beats.flatMap listB)))) = E) := hide (by rw [← hE, List.drop_zero]; unfold encM; simp)
  rw [hE]
  have hfl := h.foes.lim
  have hrl := h.rules.lim
  have hbl := h.beats.lim
  have hl0 := hT.l0
  have hl1 := hT.l1
  have hr4 := hT.rl
  have HH := hide h
  have HT := hide hT
  have HLow : Hid (Below w.heap.size w ((w.alloc (.cells #[.int .i64 T.lits, .slice fa T.foes.length fc, .slice ra T.rules.length rc, .slice ba T.beats.length bc] 27)).alloc (.cells #[.int .u8 116, .int .u8 104, .int .u8 121, .int .u8 1] 5 (4, 5)))) := hide (hB.alloc hB.size _)
  have HBx : Hid ((((w.alloc (.cells #[.int .i64 T.lits, .slice fa T.foes.length fc, .slice ra T.rules.length rc, .slice ba T.beats.length bc] 27)).alloc (.cells #[.int .u8 116, .int .u8 104, .int .u8 121, .int .u8 1] 5 (4, 5)))).heap[w.heap.size]? = some (.cells #[.int .i64 T.lits, .slice fa T.foes.length fc, .slice ra T.rules.length rc, .slice ba T.beats.length bc] 27 (0, 0))) := hide ((Below.heap_alloc _ _ _ (by simp)).trans hX)
  have hMk : (((w.alloc (.cells #[.int .i64 T.lits, .slice fa T.foes.length fc, .slice ra T.rules.length rc, .slice ba T.beats.length bc] 27)).alloc (.cells #[.int .u8 116, .int .u8 104, .int .u8 121, .int .u8 1] 5 (4, 5)))).heap[w.heap.size + 1]? = some (.cells #[.int .u8 116, .int .u8 104, .int .u8 121, .int .u8 1] 5 (4, 5)) := by
    have := heap_alloc_new (w.alloc (.cells #[.int .i64 T.lits, .slice fa T.foes.length fc, .slice ra T.rules.length rc, .slice ba T.beats.length bc] 27)) (.cells #[.int .u8 116, .int .u8 104, .int .u8 121, .int .u8 1] 5 (4, 5))
    simpa using this
  have CP := hide (put_full (B := w.heap.size + 1) (w := ((w.alloc (.cells #[.int .i64 T.lits, .slice fa T.foes.length fc, .slice ra T.rules.length rc, .slice ba T.beats.length bc] 27)).alloc (.cells #[.int .u8 116, .int .u8 104, .int .u8 121, .int .u8 1] 5 (4, 5)))) (g := w.heap.size + 1) (n := 4) (zs := markB) rfl (fun j u hu => by rw [Addr.add_lit]; unfold World.cell?; simp only [hMk, Nat.zero_add]; simpa [byts, markB] using hu) (loc_lt hMk) (by simp) hl0 (by omega) (by omega))
  clear h hT hB hE hX
  have c0 := (Bt.of HBx.out).c0
  have hcv := Lib.run_convert_bytes_const (P := Try.prog) (w.alloc (.cells #[.int .i64 T.lits, .slice fa T.foes.length fc, .slice ra T.rules.length rc, .slice ba T.beats.length bc] 27)) 22 5 #[.int .u8 116, .int .u8 104, .int .u8 121, .int .u8 1] 4 4 Try.underlying22 Try.underlying5
  rw [show (w.alloc (.cells #[.int .i64 T.lits, .slice fa T.foes.length fc, .slice ra T.rules.length rc, .slice ba T.beats.length bc] 27)).heap.size = w.heap.size + 1 by simp] at hcv
  rw [show (#[.int .u8 116, .int .u8 104, .int .u8 121, .int .u8 1] : Array Value).size = 4 from rfl] at hcv
  go_enter Try.func55, Try.ntmps55
  go_upto_region 1 with fail
  go_upto_region 2 with (go_at_call 68; refine CP.out.mono ?_; rintro _ w1 ⟨a1, c1, rfl, ho1, hw1⟩; have HW1 : Hid (Wrt w (.int .i64 T.lits) (.slice fa T.foes.length fc) (.slice ra T.rules.length rc) (.slice ba T.beats.length bc) (markB ++ numB T.lits) a1 c1 w1) := hide ⟨HLow.out.trans (hw1.mono HLow.out.size), (hw1.block _ (loc_lt HBx.out)).trans HBx.out, ho1⟩; clear ho1 hw1)
  clear c0 CP HLow HBx hMk hcv
  obtain ⟨-, c0, c1', c2, c3⟩ := Bt.of HW1.out.bx
  go_wp2_with fail
  clear c0 c1' c2 c3
  go_loopw [3, 18] (fun y x wr => ∃ (k : Nat) (acc : List Int) (a : Option Addr) (c : Nat), k ≤ T.foes.length ∧ x = .int .i64 k ∧ y = .slice a acc.length c ∧ Hid (Wrt w (.int .i64 T.lits) (.slice fa T.foes.length fc) (.slice ra T.rules.length rc) (.slice ba T.beats.length bc) acc a c wr) ∧ Hid (acc ++ (foesB k (T.foes.drop k) ++ (numB T.rules.length ++ (T.rules.flatMap ruleB ++ T.beats.flatMap listB))) = E)) (fun _ x _ => T.foes.length - (intOf x).toNat)
  case atStart => exact ⟨0, _, _, _, by omega, rfl, by first | rfl | rw [List.length_append], HW1, hide (by rw [← HE0.out]; simp)⟩
  case round =>
    clear HW1 HE0
    obtain ⟨k, acc, a, c, hk, rfl, rfl, HW, HE⟩ := hrel
    have hacc : acc.length ≤ 1000000000 := by have h1 := congrArg List.length HE.out; have h2 := HLen.out; rw [List.length_append] at h1; omega
    by_cases hlt : k < T.foes.length
    · obtain ⟨l, hl⟩ := get_at hlt
      obtain ⟨g, of, la, lc, rfl, -, kc, -, hll, hI⟩ := at_L (Lists.keep HW.out.low.block HH.out.foes) hl
      have CA := hide (above_any hI (k : Int))
      obtain ⟨-, hri, -, -⟩ := HT.out.foe k l hl
      have HE2 : Hid (acc ++ listB (aboveM k l) ++ (foesB (k + 1) (T.foes.drop (k + 1)) ++ (numB T.rules.length ++ (T.rules.flatMap ruleB ++ T.beats.flatMap listB))) = E) := hide (by rw [← HE.out, foes_step hl]; simp)
      have HMem : Hid (∀ z ∈ aboveM k l, 0 ≤ z ∧ z < 9223372036854775808) := hide fun z hz => by have := (above_rises (i := (k : Int)) hri).1 z hz; omega
      have HL2 : Hid ((acc ++ listB (aboveM k l)).length ≤ 1000000000) := hide (by have h1 := congrArg List.length HE2.out; have h2 := HLen.out; rw [List.length_append] at h1; omega)
      clear hl hI HE hri
      generalize aboveM (k : Int) l = al at *
      go_upto_region 5 with fail
      go_wp2_with (first | (go_at_call 70; refine CA.out.mono ?_; rintro _ w2 ⟨v2, rfl, hI2, hw⟩; subst w2; obtain ⟨aa, ac, rfl, -, -⟩ := hI2.form; have CL := hide (putList_any HW.out.row HW.out.size (Ints.mono (Nat.le_succ _) hI2) HMem.out HL2.out); clear hI2) | (go_at_call 69; refine CL.out.mono ?_; rintro _ w3 ⟨a3, c3, rfl, ho3, hf3, -⟩; have HW3 := hide (HW.out.told ho3 hf3); clear ho3 hf3))
      go_roundw
      case rel => exact ⟨k + 1, acc ++ listB al, _, _, by omega, by go_num, by first | rfl | rw [List.length_append], HW3, HE2⟩
      case measure => simp [intOf]; omega
    · have HE2 : Hid (acc ++ numB T.rules.length ++ ((T.rules.drop 0).flatMap ruleB ++ T.beats.flatMap listB) = E) := hide (by rw [← HE.out, drop_end (l := T.foes) (by omega), List.drop_zero]; simp [foesB])
      have CP := hide (put_any HW.out.row HW.out.size (z := T.rules.length) (by omega) (by omega) hacc)
      obtain ⟨-, c0, c1', c2, c3⟩ := Bt.of HW.out.bx
      clear HE
      go_upto_region 8 with (go_at_call 68; refine CP.out.mono ?_; rintro _ w2 ⟨a2, d2, rfl, ho2, hf2, -⟩; have HW2 := hide (HW.out.told ho2 hf2); clear ho2 hf2)
      clear c0 c1' c2 c3 CP HW hacc
      obtain ⟨-, c0, c1', c2, c3⟩ := Bt.of HW2.out.bx
      go_wp2_with fail
      clear c0 c1' c2 c3 hlt
      go_loopw [3, 37] (fun y x wr => ∃ (k : Nat) (acc : List Int) (a : Option Addr) (c : Nat), k ≤ T.rules.length ∧ x = .int .i64 k ∧ y = .slice a acc.length c ∧ Hid (Wrt w (.int .i64 T.lits) (.slice fa T.foes.length fc) (.slice ra T.rules.length rc) (.slice ba T.beats.length bc) acc a c wr) ∧ Hid (acc ++ ((T.rules.drop k).flatMap ruleB ++ T.beats.flatMap listB) = E)) (fun _ x _ => T.rules.length - (intOf x).toNat)
      case atStart => exact ⟨0, _, _, _, by omega, rfl, by first | rfl | rw [List.length_append], HW2, HE2⟩
      case round =>
        clear HW2 HE2
        clear hk
        obtain ⟨k, acc, a, c, hk, rfl, rfl, HW, HE⟩ := hrel
        have hacc : acc.length ≤ 1000000000 := by have h1 := congrArg List.length HE.out; have h2 := HLen.out; rw [List.length_append] at h1; omega
        by_cases hlt : k < T.rules.length
        · obtain ⟨x, hx⟩ := get_at hlt
          obtain ⟨g, of, la, lc, rfl, -, k0, k1, k2, -, hll, hI⟩ := at_R (Rules.keep HW.out.low.block HH.out.rules) hx
          obtain ⟨r1, r2, r3, r4, r5, r6⟩ := HT.out.rule x (List.mem_of_getElem? hx)
          obtain ⟨A1, hA1⟩ : ∃ l, acc ++ numB x.kind = l := ⟨_, rfl⟩
          obtain ⟨A2, hA2⟩ : ∃ l, A1 ++ numB x.head = l := ⟨_, rfl⟩
          obtain ⟨A3, hA3⟩ : ∃ l, A2 ++ listB x.body = l := ⟨_, rfl⟩
          have HE2 : Hid (A3 ++ ((T.rules.drop (k + 1)).flatMap ruleB ++ T.beats.flatMap listB) = E) := hide (by rw [← HE.out, flat_step hx, ← hA3, ← hA2, ← hA1]; unfold ruleB; simp)
          have hA := below_new wr (.cells #[.int .i64 x.kind, .int .i64 x.head, .slice la x.body.length lc] 70)
          have hXr := heap_alloc_new wr (.cells #[.int .i64 x.kind, .int .i64 x.head, .slice la x.body.length lc] 70)
          have HWa := hide (HW.out.call hA)
          have HMem : Hid (∀ z ∈ x.body, 0 ≤ z ∧ z < 9223372036854775808) := hide fun z hz => by have := (rises_iff.1 r6).1 z hz; omega
          have HLa : Hid (A3.length ≤ 1000000000) := hide (by have h1 := congrArg List.length HE2.out; have h2 := HLen.out; rw [List.length_append] at h1; omega)
          have hl2' : A2.length ≤ 1000000000 := by have h1 := HLa.out; rw [← hA3, List.length_append] at h1; omega
          have hl1' : A1.length ≤ 1000000000 := by rw [← hA2, List.length_append] at hl2'; omega
          have HI := hide hI
          have HLow0 := hide HW.out.low
          have CP := hide (put_any HWa.out.row HWa.out.size (z := x.kind) (by omega) (by omega) hacc)
          rw [hA1] at CP
          have HA2 := hide hA2
          have HA3 := hide hA3
          clear hx hI HE hA HW hA1 hA2 hA3
          go_upto_region 11 with fail
          generalize wr.alloc (.cells #[.int .i64 x.kind, .int .i64 x.head, .slice la x.body.length lc] 70) = W2 at *
          have q0 := cell_of_row W2 _ 0 _ _ _ hXr
          have HXr := hide hXr
          simp only [List.getElem?_toArray, List.getElem?_cons_zero] at q0
          clear hXr k0 k1 k2
          generalize wr.heap.size = qb at *
          go_upto_region 12 with (go_at_call 68; refine CP.out.mono ?_; rintro _ w3 ⟨a3, d3, rfl, ho3, hf3, -⟩; have HW3 := hide (HWa.out.told ho3 hf3); have HX3 := hide (HWa.out.stay hf3 HXr.out (by decide)); clear ho3 hf3)
          clear q0 CP HWa HXr
          have q1 := cell_of_row w3 _ 1 _ _ _ HX3.out
          simp only [List.getElem?_toArray, List.getElem?_cons_zero, List.getElem?_cons_succ] at q1
          have CP := hide (put_any HW3.out.row HW3.out.size (z := x.head) r3 (by omega) hl1')
          rw [HA2.out] at CP
          go_upto_region 13 with (go_at_call 68; refine CP.out.mono ?_; rintro _ w4 ⟨a4, d4, rfl, ho4, hf4, -⟩; have HW4 := hide (HW3.out.told ho4 hf4); have HX4 := hide (HW3.out.stay hf4 HX3.out (by decide)); clear ho4 hf4)
          clear q1 CP HX3 HW3
          have q2 := cell_of_row w4 _ 2 _ _ _ HX4.out
          simp only [List.getElem?_toArray, List.getElem?_cons_zero, List.getElem?_cons_succ] at q2
          have CL := hide (putList_any HW4.out.row HW4.out.size (Ints.mono (Nat.le_succ _) (Ints.keep (fun g hg => (HW4.out.low.block g hg).trans (HLow0.out.block g hg).symm) HI.out)) HMem.out (by rw [HA3.out]; exact HLa.out))
          rw [HA3.out] at CL
          go_wp2_with (go_at_call 69; refine CL.out.mono ?_; rintro _ w5 ⟨a5, d5, rfl, ho5, hf5, -⟩; have HW5 := hide (HW4.out.told ho5 hf5); clear ho5 hf5)
          go_roundw
          case rel => exact ⟨k + 1, A3, _, _, by omega, by go_num, rfl, HW5, HE2⟩
          case measure => simp [intOf]; omega
        · have HE2 : Hid (acc ++ (T.beats.drop 0).flatMap listB = E) := hide (by rw [← HE.out, drop_end (l := T.rules) (by omega), List.drop_zero]; simp)
          obtain ⟨-, c0, c1', c2, c3⟩ := Bt.of HW.out.bx
          clear HE
          go_wp2_with fail
          clear c0 c1' c2 c3 hlt
          go_loopw [3, 57] (fun y x wr => ∃ (k : Nat) (acc : List Int) (a : Option Addr) (c : Nat), k ≤ T.beats.length ∧ x = .int .i64 k ∧ y = .slice a acc.length c ∧ Hid (Wrt w (.int .i64 T.lits) (.slice fa T.foes.length fc) (.slice ra T.rules.length rc) (.slice ba T.beats.length bc) acc a c wr) ∧ Hid (acc ++ (T.beats.drop k).flatMap listB = E)) (fun _ x _ => T.beats.length - (intOf x).toNat)
          case atStart => exact ⟨0, _, _, _, by omega, rfl, rfl, HW, HE2⟩
          case round =>
            clear HW HE2 hacc
            clear hk
            obtain ⟨k, acc, a, c, hk, rfl, rfl, HW, HE⟩ := hrel
            by_cases hlt : k < T.beats.length
            · obtain ⟨l, hl⟩ := get_at hlt
              obtain ⟨g, of, la, lc, rfl, -, kc, -, hll, hI⟩ := at_L (Lists.keep HW.out.low.block HH.out.beats) hl
              obtain ⟨hri, -⟩ := HT.out.beat k l hl
              obtain ⟨A1, hA1⟩ : ∃ q, acc ++ listB l = q := ⟨_, rfl⟩
              have HE2 : Hid (A1 ++ (T.beats.drop (k + 1)).flatMap listB = E) := hide (by rw [← HE.out, flat_step hl, ← hA1]; simp)
              have HMem : Hid (∀ z ∈ l, 0 ≤ z ∧ z < 9223372036854775808) := hide fun z hz => by have := (rises_iff.1 hri).1 z hz; omega
              have HL2 : Hid (A1.length ≤ 1000000000) := hide (by have h1 := congrArg List.length HE2.out; have h2 := HLen.out; rw [List.length_append] at h1; omega)
              have CL := hide (putList_any HW.out.row HW.out.size (Ints.mono (Nat.le_succ _) hI) HMem.out (by rw [hA1]; exact HL2.out))
              rw [hA1] at CL
              clear hl hI HE hri hA1
              go_wp2_with (go_at_call 69; refine CL.out.mono ?_; rintro _ w3 ⟨a3, c3, rfl, ho3, hf3, -⟩; have HW3 := hide (HW.out.told ho3 hf3); clear ho3 hf3)
              go_roundw
              case rel => exact ⟨k + 1, A1, _, _, by omega, by go_num, rfl, HW3, HE2⟩
              case measure => simp [intOf]; omega
            · have HE2 : Hid (acc = E) := hide (by rw [← HE.out, drop_end (l := T.beats) (by omega)]; simp)
              clear HE
              go_wp2_with fail
              go_ret
              rw [← HE2.out]
              exact ⟨a, c, rfl, owns_down HW.out.row (Nat.le_succ _), HW.out.low⟩

/-- What Encode answers. -/
def Encd (T : Th) (w : World) (e : Ending) (w' : World) : Prop := ∃ a c, e = .returned (.tuple #[.slice a (if (checkM T).1 = 0 then encM T else []).length c, .int .i64 (checkM T).1]) ∧ w'.ownsRow w.heap.size 5 1 (.slice a (if (checkM T).1 = 0 then encM T else []).length c) (if (checkM T).1 = 0 then encM T else []).length (byts (if (checkM T).1 = 0 then encM T else []))
set_option maxRecDepth 100000 in
set_option maxHeartbeats 6400000 in
theorem encode_any {w : World} {T : Th} {fa ra ba : Option Addr} {fc rc bc : Nat} (h : TA w.heap.size w T fa fc ra rc ba bc) :
    Calls Try.prog 32 #[tv T fa fc ra rc ba bc] w fun e w' => Encd T w e w' ∧ Below w.heap.size w w' := by
  have hB := below_new w (.cells #[.int .i64 T.lits, .slice fa T.foes.length fc, .slice ra T.rules.length rc, .slice ba T.beats.length bc] 27)
  have hX := heap_alloc_new w (.cells #[.int .i64 T.lits, .slice fa T.foes.length fc, .slice ra T.rules.length rc, .slice ba T.beats.length bc] 27)
  have hL := TR.go hB h
  have CC := hide (check_any hL)
  have HL := hide hL
  have HB := hide hB
  have HX := hide hX
  obtain ⟨a, b, hab⟩ : ∃ a b, checkM T = (a, b) := ⟨_, _, rfl⟩
  rw [hab] at CC
  unfold dup at CC
  simp only at CC
  clear h hB hL
  go_enter Try.func32, Try.ntmps32
  go_upto_region 1 with fail
  generalize w.alloc (.cells #[.int .i64 T.lits, .slice fa T.foes.length fc, .slice ra T.rules.length rc, .slice ba T.beats.length bc] 27) = W at *
  obtain ⟨-, c0, c1, c2, c3⟩ := Bt.of hX
  clear hX
  by_cases ha : a = 0
  · have h0 : (checkM T).1 = 0 := by rw [hab]; exact ha
    have HO := hide (check_ok h0)
    have HE : Hid ((if (checkM T).1 = 0 then encM T else []) = encM T) := hide (if_pos h0)
    have HZ : Hid ((checkM T).1 = 0) := hide h0
    subst ha
    clear hab h0
    go_upto_region 4 with (go_at_call 31; refine CC.out.mono ?_; rintro _ w1 ⟨rfl, hw1⟩; have HB1 := hide (HB.out.trans (hw1.mono HB.out.size)); have HL1 := hide (TR.go hw1 HL.out); have HX1 := hide ((hw1.block _ (loc_lt HX.out)).trans HX.out); clear hw1)
    clear c0 c1 c2 c3
    obtain ⟨-, c0, c1, c2, c3⟩ := Bt.of HX1.out
    have CW := hide (written_any HL1.out HO.out)
    go_wp2_with (go_at_call 55; refine CW.out.mono ?_; rintro _ w2 ⟨a2, d2, rfl, ho2, hw2⟩; have HO2 := hide (owns_down ho2 HB1.out.size); have HB2 := hide (HB1.out.trans (hw2.mono HB1.out.size)); clear ho2 hw2)
    go_ret2
    refine ⟨⟨a2, d2, ?_, ?_⟩, HB2.out⟩
    · rw [HE.out, HZ.out]; rfl
    · rw [HE.out]; exact HO2.out
  · have h0 : ¬ (checkM T).1 = 0 := by rw [hab]; exact ha
    have HE : Hid ((if (checkM T).1 = 0 then encM T else []) = []) := hide (if_neg h0)
    have HZ : Hid ((checkM T).1 = a) := hide (by rw [hab])
    have hab2 : (a != 0) = true := by simpa using ha
    clear hab h0
    go_wp2_with (go_at_call 31; refine CC.out.mono ?_; rintro _ w1 ⟨rfl, hw1⟩; have HB1 := hide (HB.out.trans (hw1.mono HB.out.size)); clear hw1)
    go_ret2
    refine ⟨⟨none, 0, ?_, ?_⟩, HB1.out⟩
    · rw [HE.out, HZ.out]; rfl
    · rw [HE.out]; exact ⟨rfl, .inl ⟨rfl, rfl⟩⟩
end Go.Proofs.Ytdmnoeooljofcaa
