/- The page's seen. By program (tools/gen8/seen9.py). -/
import Derived.Test.YtfnobccminhjpaaGreatSim9
import Derived.Test.YtfnobccminhjpaaGreatBx9
namespace Go.Proofs.YtfnobccminhjpaaGreat
open Go.RowKit Go.Shelf Go.Maps Go.WideMaps

theorem src_strs {N : Nat} {w : World} {l : List Bytes} {a : Option Addr} {c : Nat} (h : Strs N w l (.slice a l.length c)) : Src Tryz.prog 1 22 (.slice a l.length c) l.length (strs l) w := by
  cases a with
  | none =>
    have hl : l = [] := by
      cases l with
      | nil => rfl
      | cons x r =>
        obtain ⟨g, o, e, _⟩ := at_S h (i := 0) (x := x) rfl
        cases e
    subst hl
    exact Src.ofNil w Tryz.underlying22 c
  | some a =>
    obtain ⟨b, off, sp⟩ := a
    cases hl : l with
    | nil => exact Src.ofSlice w Tryz.underlying22 _ 0 c [] rfl (fun j u hu => by simp at hu) (by simp)
    | cons y r =>
      rw [← hl]
      have hsp : sp = none := by
        obtain ⟨g, o, e, _⟩ := at_S h (i := 0) (x := y) (by rw [hl]; rfl)
        cases e
        rfl
      subst hsp
      refine Src.ofSlice w Tryz.underlying22 _ l.length c (strs l) (by unfold strs; simp) (fun j u hu => ?_) (fun u hu => ?_)
      · unfold strs at hu
        rw [List.getElem?_map] at hu
        cases hj : l[j]? with
        | none => rw [hj] at hu; cases hu
        | some x =>
          rw [hj] at hu
          obtain ⟨g, o, e, _, hc, _⟩ := at_S h hj
          cases e
          rw [Addr.add_lit, hc]
          simpa using hu
      · obtain ⟨x, _, rfl⟩ := List.mem_map.1 hu
        rfl
/-- What seen has gathered. -/
structure Sn (RUl : List Value) (w : World) (l : List Bytes) (n : Nat) (mv : Value) (wr : World) : Prop where
  low : Below w.heap.size w wr
  bx : wr.heap[w.heap.size]? = some (.cells RUl.toArray 97 (0, 0))
  row : wr.ownsRow w.heap.size 9 1 mv n (strs l)
  len : l.length = n
section
variable {RUl : List Value} {w : World} {l l' : List Bytes} {n m : Nat} {mv v' : Value} {wr wd w4 : World}
theorem Sn.call (h : Sn RUl w l n mv wr) (hb : Below wr.heap.size wr wd) : Sn RUl w l n mv wd :=
  ⟨h.low.trans (hb.mono h.low.size), (hb.block _ (loc_lt h.bx)).trans h.bx, owns_keep h.row fun g hg => hb.block g (owns_lt h.row hg), h.len⟩
theorem Sn.keep (h : Sn RUl w l n mv wd) (hg : wd.grownBy w4 mv.ownBlock) {q T : Nat} {cs : Array Value} (hq : wd.heap[q]? = some (.cells cs T (0, 0))) (hT : 9 ≠ T) : w4.heap[q]? = some (.cells cs T (0, 0)) :=
  (hg.block q (loc_lt hq) (fun e => own_ne (owns_down h.row (Nat.zero_le _)) hq hT e.symm)).trans hq
theorem Sn.app (h : Sn RUl w l n mv wd) (hown : w4.ownsRow w.heap.size 9 1 v' (n + m) (strs l ++ strs l')) (hm : l'.length = m) (hg : wd.grownBy w4 mv.ownBlock) : Sn RUl w (l ++ l') (n + m) v' w4 := by
  have hf : Fr (fun k => w.heap.size ≤ k) wd w4 := .of_grown hg fun k e => (h.row.lt k e).1
  refine ⟨h.low.trans (hf.below fun k hk => ⟨Nat.lt_of_lt_of_le hk h.low.size, by omega⟩), h.keep hg h.bx (by decide), ?_, by rw [List.length_append, h.len, hm]⟩
  have e : strs (l ++ l') = strs l ++ strs l' := by unfold strs; simp
  rw [e]
  exact hown
end
theorem flat_take {α : Type} {f : α → List Bytes} {l : List α} {i : Nat} {x : α} (h : l[i]? = some x) : (l.take (i + 1)).flatMap f = (l.take i).flatMap f ++ f x := by
  rw [take_snoc h, List.flatMap_append]
  simp
theorem flat_len : ∀ (l : List TermM), (∀ t ∈ l, t.args.length ≤ 4) → (l.flatMap (·.args)).length ≤ 4 * l.length
  | [], _ => by simp
  | t :: r, h => by
    have h1 := h t (by simp)
    have h2 := flat_len r fun x hx => h x (by simp [hx])
    rw [List.flatMap_cons, List.length_append, List.length_cons]
    omega
set_option maxRecDepth 100000 in
set_option maxHeartbeats 12800000 in
theorem seen_any {w : World} {t : RuleM} {xs : List Value} (h : cRule w.heap.size w t xs) (hsh : ∀ p ∈ t.body, shortP p) (hb16 : t.body.length ≤ 16) (hh4 : t.head.args.length ≤ 4) :
    Calls Tryz.prog 57 #[.agg xs.toArray] w fun e w' => ∃ a c, e = .returned (.slice a (seenM t).length c) ∧ w'.ownsRow w.heap.size 9 1 (.slice a (seenM t).length c) (seenM t).length (strs (seenM t)) ∧ Below w.heap.size w w' := by
  obtain ⟨iM, hiM, zM0, zM1, zM2⟩ := info_parts' infoS
  obtain ⟨_, _, rfl, _, _, r1, ⟨hv, rfl, _, r2⟩⟩ := h
  obtain ⟨ba, bc, rfl, _⟩ := r1.form
  obtain ⟨ha, hc, rfl, _⟩ := r2.form
  have R1 := hide r1
  have R2 := hide r2
  have HSH := hide hsh
  clear r1 r2 hsh
  unfold str at *
  show Calls Tryz.prog 57 #[.agg #[.string ⟨t.name.toArray⟩, .string ⟨t.source.toArray⟩, .int .i64 t.day, .int .i64 t.till, .slice ba t.body.length bc, .int .i64 t.arrow, .bool t.head.neg, .string ⟨t.head.pred.toArray⟩, .slice ha t.head.args.length hc, .bool t.head.hasValue, .int .i64 t.head.value]] w _
  have SN0 : Hid (Sn [.string ⟨t.name.toArray⟩, .string ⟨t.source.toArray⟩, .int .i64 t.day, .int .i64 t.till, .slice ba t.body.length bc, .int .i64 t.arrow, .bool t.head.neg, .string ⟨t.head.pred.toArray⟩, .slice ha t.head.args.length hc, .bool t.head.hasValue, .int .i64 t.head.value] w ((t.body.take 0).flatMap seenP) 0 (.slice none 0 0) (w.alloc (.cells #[.string ⟨t.name.toArray⟩, .string ⟨t.source.toArray⟩, .int .i64 t.day, .int .i64 t.till, .slice ba t.body.length bc, .int .i64 t.arrow, .bool t.head.neg, .string ⟨t.head.pred.toArray⟩, .slice ha t.head.args.length hc, .bool t.head.hasValue, .int .i64 t.head.value] 97))) := hide ⟨(Below.refl _ w).alloc (Nat.le_refl _) _, heap_alloc_new w _, ⟨by simp [strs], .inl ⟨rfl, rfl⟩⟩, by simp⟩
  go_enter Tryz.func57, Tryz.ntmps57
  go_upto_region 1 with fail
  generalize w.alloc (.cells #[.string ⟨t.name.toArray⟩, .string ⟨t.source.toArray⟩, .int .i64 t.day, .int .i64 t.till, .slice ba t.body.length bc, .int .i64 t.arrow, .bool t.head.neg, .string ⟨t.head.pred.toArray⟩, .slice ha t.head.args.length hc, .bool t.head.hasValue, .int .i64 t.head.value] 97) = W0 at *
  go_wp2_with fail
  go_loopw [3, 4] (fun mv z wr => ∃ (i n : Nat) (a0 : Option Addr) (c0 : Nat), i ≤ t.body.length ∧ z = .int .i64 i ∧ mv = .slice a0 n c0 ∧ Hid (Sn [.string ⟨t.name.toArray⟩, .string ⟨t.source.toArray⟩, .int .i64 t.day, .int .i64 t.till, .slice ba t.body.length bc, .int .i64 t.arrow, .bool t.head.neg, .string ⟨t.head.pred.toArray⟩, .slice ha t.head.args.length hc, .bool t.head.hasValue, .int .i64 t.head.value] w ((t.body.take i).flatMap seenP) n (.slice a0 n c0) wr)) (fun _ z _ => t.body.length - (intOf z).toNat)
  case atStart => exact ⟨0, 0, none, 0, by omega, rfl, rfl, SN0⟩
  case round =>
    clear SN0
    obtain ⟨i, n, a0, c0, hi, rfl, rfl, SN⟩ := hrel
    have b4 := cell_of_row wr _ 4 _ _ _ SN.out.bx
    have b6 := cell_of_row wr _ 6 _ _ _ SN.out.bx
    have b7 := cell_of_row wr _ 7 _ _ _ SN.out.bx
    have b8 := cell_of_row wr _ 8 _ _ _ SN.out.bx
    have b9 := cell_of_row wr _ 9 _ _ _ SN.out.bx
    have b10 := cell_of_row wr _ 10 _ _ _ SN.out.bx
    simp only [List.getElem?_toArray, List.getElem?_cons_zero, List.getElem?_cons_succ] at b4 b6 b7 b8 b9 b10
    have hn : n ≤ 1024 := by
      have h1 := seen_len (l := t.body.take i) fun p hp => HSH.out p (List.mem_of_mem_take hp)
      have h2 := SN.out.len
      have h3 : (t.body.take i).length ≤ 16 := by rw [List.length_take]; omega
      omega
    by_cases hlt : i < t.body.length
    · obtain ⟨x, hx⟩ : ∃ x, t.body[i]? = some x := ⟨t.body[i], List.getElem?_eq_getElem hlt⟩
      have HT := hide (flat_take (f := seenP) hx)
      have HX := hide (HSH.out x (List.mem_of_getElem? hx))
      obtain ⟨g, o, ys, rfl, hg, _, hcell, hcx⟩ := RR.open R1.out hx
      obtain ⟨_, _, rfl, ⟨av, rfl, _, q1⟩, ⟨lv, rv, rfl, q2, q3⟩, _, _⟩ := hcx
      obtain ⟨ka, kc, rfl, _⟩ := q1.form
      obtain ⟨la, lc, rfl, _⟩ := q2.form
      obtain ⟨ra, rc, rfl, _⟩ := q3.form
      have d0 : wr.cell? ⟨g, o + i * 11, none⟩ = some (.int .i64 x.kind) := (World.cell?_of_block (SN.out.low.block g hg)).trans (hcell 0 _ rfl)
      have d1 : wr.cell? ⟨g, o + i * 11 + 1, none⟩ = some (.bool x.lit.neg) := (World.cell?_of_block (SN.out.low.block g hg)).trans (hcell 1 _ rfl)
      have d2 : wr.cell? ⟨g, o + i * 11 + 2, none⟩ = some (.string ⟨x.lit.pred.toArray⟩) := (World.cell?_of_block (SN.out.low.block g hg)).trans (hcell 2 _ rfl)
      have d3 : wr.cell? ⟨g, o + i * 11 + 3, none⟩ = some (.slice ka x.lit.args.length kc) := (World.cell?_of_block (SN.out.low.block g hg)).trans (hcell 3 _ rfl)
      have d4 : wr.cell? ⟨g, o + i * 11 + 4, none⟩ = some (.bool x.lit.hasValue) := (World.cell?_of_block (SN.out.low.block g hg)).trans (hcell 4 _ rfl)
      have d5 : wr.cell? ⟨g, o + i * 11 + 5, none⟩ = some (.int .i64 x.lit.value) := (World.cell?_of_block (SN.out.low.block g hg)).trans (hcell 5 _ rfl)
      have d6 : wr.cell? ⟨g, o + i * 11 + 6, none⟩ = some (.slice la x.guard.left.length lc) := (World.cell?_of_block (SN.out.low.block g hg)).trans (hcell 6 _ rfl)
      have d7 : wr.cell? ⟨g, o + i * 11 + 7, none⟩ = some (.int .i64 x.guard.op) := (World.cell?_of_block (SN.out.low.block g hg)).trans (hcell 7 _ rfl)
      have d8 : wr.cell? ⟨g, o + i * 11 + 8, none⟩ = some (.slice ra x.guard.right.length rc) := (World.cell?_of_block (SN.out.low.block g hg)).trans (hcell 8 _ rfl)
      have d9 : wr.cell? ⟨g, o + i * 11 + 9, none⟩ = some (.string ⟨x.a.toArray⟩) := (World.cell?_of_block (SN.out.low.block g hg)).trans (hcell 9 _ rfl)
      have d10 : wr.cell? ⟨g, o + i * 11 + 10, none⟩ = some (.string ⟨x.b.toArray⟩) := (World.cell?_of_block (SN.out.low.block g hg)).trans (hcell 10 _ rfl)
      have hA : Below wr.heap.size wr (wr.alloc (.cells #[.int .i64 x.kind, .bool x.lit.neg, .string ⟨x.lit.pred.toArray⟩, .slice ka x.lit.args.length kc, .bool x.lit.hasValue, .int .i64 x.lit.value, .slice la x.guard.left.length lc, .int .i64 x.guard.op, .slice ra x.guard.right.length rc, .string ⟨x.a.toArray⟩, .string ⟨x.b.toArray⟩] 123)) := (Below.refl _ wr).alloc (Nat.le_refl _) _
      have SB := hide (SN.out.call hA)
      have BP := hide (heap_alloc_new wr (.cells #[.int .i64 x.kind, .bool x.lit.neg, .string ⟨x.lit.pred.toArray⟩, .slice ka x.lit.args.length kc, .bool x.lit.hasValue, .int .i64 x.lit.value, .slice la x.guard.left.length lc, .int .i64 x.guard.op, .slice ra x.guard.right.length rc, .string ⟨x.a.toArray⟩, .string ⟨x.b.toArray⟩] 123))
      have Q1 := hide q1
      have Q2 := hide q2
      have Q3 := hide q3
      clear hcell q1 q2 q3 hx hA
      go_upto_region 6 with fail
      clear d0 d1 d2 d3 d4 d5 d6 d7 d8 d9 d10 b4 b6 b7 b8 b9 b10 SN
      generalize wr.alloc (.cells #[.int .i64 x.kind, .bool x.lit.neg, .string ⟨x.lit.pred.toArray⟩, .slice ka x.lit.args.length kc, .bool x.lit.hasValue, .int .i64 x.lit.value, .slice la x.guard.left.length lc, .int .i64 x.guard.op, .slice ra x.guard.right.length rc, .string ⟨x.a.toArray⟩, .string ⟨x.b.toArray⟩] 123) = wb at *
      generalize wr.heap.size = Pb at *
      have HBASE := hide SB.out.low.size
      have HROW := hide SB.out.row
      have p0 := cell_of_row wb _ 0 _ _ _ BP.out
      have p1 := cell_of_row wb _ 1 _ _ _ BP.out
      have p2 := cell_of_row wb _ 2 _ _ _ BP.out
      have p3 := cell_of_row wb _ 3 _ _ _ BP.out
      have p4 := cell_of_row wb _ 4 _ _ _ BP.out
      have p5 := cell_of_row wb _ 5 _ _ _ BP.out
      have p6 := cell_of_row wb _ 6 _ _ _ BP.out
      have p7 := cell_of_row wb _ 7 _ _ _ BP.out
      have p8 := cell_of_row wb _ 8 _ _ _ BP.out
      have p9 := cell_of_row wb _ 9 _ _ _ BP.out
      have p10 := cell_of_row wb _ 10 _ _ _ BP.out
      simp only [List.getElem?_toArray, List.getElem?_cons_zero, List.getElem?_cons_succ] at p0 p1 p2 p3 p4 p5 p6 p7 p8 p9 p10
      obtain ⟨hx1, hx2, hx3⟩ := HX.out
      by_cases h1 : x.kind = 1
      · have HE : Hid (seenP x = x.lit.args) := hide (by unfold seenP; rw [if_pos h1])
        have hl4 := hx1 h1
        have k1 : (x.kind == 1) = true := by rw [h1]; rfl
        clear h1 hx1 hx2 hx3
        go_wp2_with (at_builtin; go_must (refine wpList_append_src _ HBASE.out (by rfl) _ _ 22 22 rfl 9 iM _ 1 16 Tryz.underlying22 hiM zM0 zM1 zM2 (by decide) rfl _ n (strs ((t.body.take i).flatMap seenP)) rfl HROW.out _ _ (strs x.lit.args) rfl (src_strs (Strs.go SB.out.low Q1.out)) (by omega) ?_); intro v4 w4 hown4 hg4; obtain ⟨a4, c4, rfl⟩ := owns_slice hown4)
        have S4 := hide (SB.out.app hown4 rfl hg4)
        rw [← HE.out, ← HT.out] at S4
        go_roundw
        case rel => exact ⟨i + 1, n + x.lit.args.length, a4, c4, by omega, by go_num, rfl, by rw [HE.out] at S4; exact S4⟩
        case measure => simp [intOf]; omega
      · have k1 : (x.kind == 1) = false := beq_eq_false_iff_ne.2 h1
        by_cases h2 : x.kind = 2
        · have HE : Hid (seenP x = x.guard.left.flatMap (·.args) ++ x.guard.right.flatMap (·.args)) := hide (by unfold seenP; rw [if_neg h1, if_pos h2])
          obtain ⟨⟨hll, hlt4⟩, hrl, hrt4⟩ := hx2 h2
          have k2 : (x.kind == 2) = true := by rw [h2]; rfl
          have hlen : ((t.body.take i).flatMap seenP).length = n := SB.out.len
          clear h1 h2 hx1 hx2 hx3 HROW HBASE
          go_wp2_with fail
          clear p0 p1 p2 p3 p4 p5 p6 p7 p8 p9 p10
          go_loopw [3, 6] (fun mv z wq => ∃ (k n2 : Nat) (a1 : Option Addr) (c1 : Nat), k ≤ x.guard.left.length ∧ z = .int .i64 k ∧ mv = .slice a1 n2 c1 ∧ Hid (Sn [.string ⟨t.name.toArray⟩, .string ⟨t.source.toArray⟩, .int .i64 t.day, .int .i64 t.till, .slice (some ⟨g, o, none⟩) t.body.length bc, .int .i64 t.arrow, .bool t.head.neg, .string ⟨t.head.pred.toArray⟩, .slice ha t.head.args.length hc, .bool t.head.hasValue, .int .i64 t.head.value] w ((t.body.take i).flatMap seenP ++ (x.guard.left.take k).flatMap (·.args)) n2 (.slice a1 n2 c1) wq) ∧ Hid (wq.heap[Pb]? = some (.cells #[.int .i64 x.kind, .bool x.lit.neg, .string ⟨x.lit.pred.toArray⟩, .slice ka x.lit.args.length kc, .bool x.lit.hasValue, .int .i64 x.lit.value, .slice la x.guard.left.length lc, .int .i64 x.guard.op, .slice ra x.guard.right.length rc, .string ⟨x.a.toArray⟩, .string ⟨x.b.toArray⟩] 123 (0, 0)))) (fun _ z _ => x.guard.left.length - (intOf z).toNat)
          case atStart => exact ⟨0, n, a0, c0, by omega, rfl, rfl, (by simpa using SB), BP⟩
          case round =>
            clear SB BP
            obtain ⟨k, n2, a1, c1, hk, rfl, rfl, S2, B2⟩ := hrel
            have p6 := cell_of_row wr _ 6 _ _ _ B2.out
            simp only [List.getElem?_toArray, List.getElem?_cons_zero, List.getElem?_cons_succ] at p6
            have hn2 : n2 ≤ 1056 := by
              have e1 := S2.out.len
              have e2 := flat_len (x.guard.left.take k) fun y hy => hlt4 y (List.mem_of_mem_take hy)
              have e3 : (x.guard.left.take k).length ≤ 8 := by rw [List.length_take]; omega
              simp only [List.length_append] at e1
              omega
            by_cases hkl : k < x.guard.left.length
            · obtain ⟨y, hy⟩ : ∃ y, x.guard.left[k]? = some y := ⟨x.guard.left[k], List.getElem?_eq_getElem hkl⟩
              have HT2 := hide (flat_take (f := fun (y : TermM) => y.args) hy)
              have hy4 := hlt4 y (List.mem_of_getElem? hy)
              obtain ⟨tg, tof, zs, rfl, htg, _, htc, htx⟩ := RR.open Q2.out hy
              obtain ⟨tv, rfl, _, tq⟩ := htx
              obtain ⟨ta, tc, rfl, _⟩ := tq.form
              have e2 : wr.cell? ⟨tg, tof + k * 4 + 2, none⟩ = some (.slice ta y.args.length tc) := (World.cell?_of_block (S2.out.low.block tg htg)).trans (htc 2 _ rfl)
              have TQ := hide tq
              have HB2 := hide S2.out.low.size
              have HR2 := hide S2.out.row
              clear tq htc hy
              go_wp2_with (at_builtin; go_must (refine wpList_append_src _ HB2.out (by rfl) _ _ 22 22 rfl 9 iM _ 1 16 Tryz.underlying22 hiM zM0 zM1 zM2 (by decide) rfl _ n2 (strs ((t.body.take i).flatMap seenP ++ (x.guard.left.take k).flatMap (·.args))) rfl HR2.out _ _ (strs y.args) rfl (src_strs (Strs.go S2.out.low TQ.out)) (by omega) ?_); intro v4 w4 hown4 hg4; obtain ⟨a4, c4, rfl⟩ := owns_slice hown4)
              have S4 := hide (S2.out.app hown4 rfl hg4)
              have B4 := hide (S2.out.keep hg4 B2.out (by decide))
              rw [List.append_assoc, ← HT2.out] at S4
              go_roundw
              case rel => exact ⟨k + 1, n2 + y.args.length, a4, c4, by omega, by go_num, rfl, S4, B4⟩
              case measure => simp [intOf]; omega
            · have hkn : k = x.guard.left.length := by omega
              have S5 := hide S2.out
              rw [hkn, List.take_length] at S5
              clear hkn
              go_wp2_with fail
              go_loopw [3, 7] (fun mv z wq => ∃ (k n2 : Nat) (a1 : Option Addr) (c1 : Nat), k ≤ x.guard.right.length ∧ z = .int .i64 k ∧ mv = .slice a1 n2 c1 ∧ Hid (Sn [.string ⟨t.name.toArray⟩, .string ⟨t.source.toArray⟩, .int .i64 t.day, .int .i64 t.till, .slice (some ⟨g, o, none⟩) t.body.length bc, .int .i64 t.arrow, .bool t.head.neg, .string ⟨t.head.pred.toArray⟩, .slice ha t.head.args.length hc, .bool t.head.hasValue, .int .i64 t.head.value] w ((t.body.take i).flatMap seenP ++ x.guard.left.flatMap (·.args) ++ (x.guard.right.take k).flatMap (·.args)) n2 (.slice a1 n2 c1) wq) ∧ Hid (wq.heap[Pb]? = some (.cells #[.int .i64 x.kind, .bool x.lit.neg, .string ⟨x.lit.pred.toArray⟩, .slice ka x.lit.args.length kc, .bool x.lit.hasValue, .int .i64 x.lit.value, .slice la x.guard.left.length lc, .int .i64 x.guard.op, .slice ra x.guard.right.length rc, .string ⟨x.a.toArray⟩, .string ⟨x.b.toArray⟩] 123 (0, 0)))) (fun _ z _ => x.guard.right.length - (intOf z).toNat)
              case atStart => exact ⟨0, n2, a1, c1, by omega, rfl, rfl, (by simpa using S5), B2⟩
              case round =>
                clear S5 B2 S2
                obtain ⟨k, n2, a1, c1, hk, rfl, rfl, S2, B2⟩ := hrel
                have p8 := cell_of_row wr _ 8 _ _ _ B2.out
                simp only [List.getElem?_toArray, List.getElem?_cons_zero, List.getElem?_cons_succ] at p8
                have hn2 : n2 ≤ 1088 := by
                  have e1 := S2.out.len
                  have e2 := flat_len (x.guard.right.take k) fun y hy => hrt4 y (List.mem_of_mem_take hy)
                  have e3 : (x.guard.right.take k).length ≤ 8 := by rw [List.length_take]; omega
                  have e4 := flat_len x.guard.left hlt4
                  simp only [List.length_append] at e1
                  omega
                by_cases hkl : k < x.guard.right.length
                · obtain ⟨y, hy⟩ : ∃ y, x.guard.right[k]? = some y := ⟨x.guard.right[k], List.getElem?_eq_getElem hkl⟩
                  have HT2 := hide (flat_take (f := fun (y : TermM) => y.args) hy)
                  have hy4 := hrt4 y (List.mem_of_getElem? hy)
                  obtain ⟨tg, tof, zs, rfl, htg, _, htc, htx⟩ := RR.open Q3.out hy
                  obtain ⟨tv, rfl, _, tq⟩ := htx
                  obtain ⟨ta, tc, rfl, _⟩ := tq.form
                  have e2 : wr.cell? ⟨tg, tof + k * 4 + 2, none⟩ = some (.slice ta y.args.length tc) := (World.cell?_of_block (S2.out.low.block tg htg)).trans (htc 2 _ rfl)
                  have TQ := hide tq
                  have HB2 := hide S2.out.low.size
                  have HR2 := hide S2.out.row
                  clear tq htc hy
                  go_wp2_with (at_builtin; go_must (refine wpList_append_src _ HB2.out (by rfl) _ _ 22 22 rfl 9 iM _ 1 16 Tryz.underlying22 hiM zM0 zM1 zM2 (by decide) rfl _ n2 (strs ((t.body.take i).flatMap seenP ++ x.guard.left.flatMap (·.args) ++ (x.guard.right.take k).flatMap (·.args))) rfl HR2.out _ _ (strs y.args) rfl (src_strs (Strs.go S2.out.low TQ.out)) (by omega) ?_); intro v4 w4 hown4 hg4; obtain ⟨a4, c4, rfl⟩ := owns_slice hown4)
                  have S4 := hide (S2.out.app hown4 rfl hg4)
                  have B4 := hide (S2.out.keep hg4 B2.out (by decide))
                  rw [List.append_assoc, ← HT2.out] at S4
                  go_roundw
                  case rel => exact ⟨k + 1, n2 + y.args.length, a4, c4, by omega, by go_num, rfl, S4, B4⟩
                  case measure => simp [intOf]; omega
                · have hkn : k = x.guard.right.length := by omega
                  have S5 := hide S2.out
                  rw [hkn, List.take_length] at S5
                  clear hkn
                  rw [List.append_assoc, ← HE.out, ← HT.out] at S5
                  go_wp2_with fail
                  go_roundw
                  case rel => exact ⟨i + 1, n2, a1, c1, by omega, by go_num, rfl, S5⟩
                  case measure => simp [intOf]; omega
        · have HE : Hid (seenP x = [x.a, x.b]) := hide (by unfold seenP; rw [if_neg h1, if_neg h2])
          have k2 : (x.kind == 2) = false := beq_eq_false_iff_ne.2 h2
          have hA : Below wb.heap.size wb (wb.alloc (.cells #[.string ⟨x.a.toArray⟩, .string ⟨x.b.toArray⟩] 9)) := (Below.refl _ wb).alloc (Nat.le_refl _) _
          have SC := hide (SB.out.call hA)
          have HRC := hide SC.out.row
          have HBC := hide SC.out.low.size
          have HSR : Hid (Src Tryz.prog 1 22 (.slice (some ⟨wb.heap.size, 0, none⟩) 2 2) 2 (strs [x.a, x.b]) (wb.alloc (.cells #[.string ⟨x.a.toArray⟩, .string ⟨x.b.toArray⟩] 9))) := hide (Src.ofSlice _ Tryz.underlying22 _ 2 2 _ rfl (news_at (cs := strs [x.a, x.b]) rfl) (by simp [strs, str, Value.oneCell']))
          clear h1 h2 hx1 hx2 hx3 hA HROW HBASE
          go_wp2_with (at_builtin; go_must (refine wpList_append_src _ HBC.out (by rfl) _ _ 22 22 rfl 9 iM _ 1 16 Tryz.underlying22 hiM zM0 zM1 zM2 (by decide) rfl _ n (strs ((t.body.take i).flatMap seenP)) rfl HRC.out _ _ (strs [x.a, x.b]) rfl HSR.out (by omega) ?_); intro v4 w4 hown4 hg4; obtain ⟨a4, c4, rfl⟩ := owns_slice hown4)
          have S4 := hide (SC.out.app hown4 rfl hg4)
          rw [← HE.out, ← HT.out] at S4
          go_roundw
          case rel => exact ⟨i + 1, n + 2, a4, c4, by omega, by go_num, rfl, S4⟩
          case measure => simp [intOf]; omega
    · have hin : i = t.body.length := by omega
      have HL : Hid ((t.body.take i).flatMap seenP ++ t.head.args = seenM t) := hide (by rw [hin, List.take_length]; rfl)
      clear hin
      have HBASE := hide SN.out.low.size
      have HROW := hide SN.out.row
      go_wp2_with (at_builtin; go_must (refine wpList_append_src _ HBASE.out (by rfl) _ _ 22 22 rfl 9 iM _ 1 16 Tryz.underlying22 hiM zM0 zM1 zM2 (by decide) rfl _ n (strs ((t.body.take i).flatMap seenP)) rfl HROW.out _ _ (strs t.head.args) rfl (src_strs (Strs.go SN.out.low R2.out)) (by omega) ?_); intro v4 w4 hown4 hg4; obtain ⟨a4, c4, rfl⟩ := owns_slice hown4)
      have S4 := hide (SN.out.app hown4 rfl hg4)
      rw [HL.out] at S4
      have HLN := hide S4.out.len
      rw [← HLN.out] at S4
      rw [← HLN.out]
      go_ret
      exact ⟨a4, c4, rfl, S4.out.row, S4.out.low⟩
end Go.Proofs.YtfnobccminhjpaaGreat
