/- coneOf: the heads. -/
import Derived.Test.YtdmnoeooljofcaaHrwC
import Derived.Deep.RegionLaw
import Derived.Deep.AppendLies
import Derived.Deep.CutRange
namespace Go.Proofs.Ytdmnoeooljofcaa.Cz
open Go.RowKit

theorem two_boxes (w : World) (o1 o2 : Obj) : Below w.heap.size w ((w.alloc o1).alloc o2) ∧ ((w.alloc o1).alloc o2).heap[w.heap.size]? = some o1 ∧ ((w.alloc o1).alloc o2).heap[w.heap.size + 1]? = some o2 := by
  have hs1 : (w.alloc o1).heap.size = w.heap.size + 1 := by simp
  have hA1 : Below w.heap.size w (w.alloc o1) := below_new w o1
  refine ⟨hA1.alloc (by omega) _, (Below.heap_alloc _ o2 _ (by omega)).trans (heap_alloc_new w o1), ?_⟩
  have := heap_alloc_new (w.alloc o1) o2
  rw [hs1] at this
  exact this

theorem headB_snoc {h x : Int} {l : List Int} {H : List (List Int)} : headB h (l ++ [x]) H = addH (headB h l H) x h := by
  induction l generalizing H with
  | nil => rfl
  | cons y l ih => exact ih
theorem headR_snoc {r : RuleM} {l : List RuleM} {H : List (List Int)} : headR (l ++ [r]) H = headB r.head r.body (headR l H) := by
  induction l generalizing H with
  | nil => rfl
  | cons y l ih => exact ih
theorem addH_le {H : List (List Int)} {x h : Int} {K : Nat} (hH : ∀ (i : Nat) l, H[i]? = some l → l.length ≤ K) : ∀ (i : Nat) l, (addH H x h)[i]? = some l → l.length ≤ K + 1 := by
  intro i l hi
  unfold addH at hi
  rw [List.getElem?_set] at hi
  split at hi
  · split at hi
    · rename_i h1 h2
      cases hi
      have : (row H x).length ≤ K := by
        unfold row
        rw [List.getD_eq_getElem?_getD]
        cases hr : H[x.toNat]? with
        | none => simp
        | some m => exact hH _ m hr
      simp
      exact this
    · cases hi
  · have := hH i l hi
    omega
theorem addH_at {G : List (List Int)} {x : Nat} {m : List Int} {h : Int} (hm : G[x]? = some m) : addH G x h = G.set x (m ++ [h]) := by
  unfold addH row
  rw [Int.toNat_natCast, List.getD_eq_getElem?_getD, hm]
  rfl
section
variable {wr w5 : World} {ob : Obj} {v : Value} {hb : Nat}
theorem grown_low (hgrow : (wr.alloc ob).drew.grownBy w5 v.ownBlock) (hv : ∀ g, v.ownBlock = some g → hb < g) (hs : hb ≤ wr.heap.size) : Below hb wr w5 := by
  have h1 : Below hb wr (wr.alloc ob).drew := ((below_new wr ob).mono hs).drew
  refine h1.trans ⟨hgrow.os, hgrow.tape, hgrow.output, hgrow.size, fun k hk => hgrow.block k ?_ fun e => ?_⟩
  · have : (wr.alloc ob).drew.heap.size = wr.heap.size + 1 := by show (wr.alloc ob).heap.size = _; simp
    omega
  · have := hv k e.symm; omega
theorem grown_old2 (hgrow : (wr.alloc ob).drew.grownBy w5 v.ownBlock) {k : Nat} (hk : k < wr.heap.size) (hn : v.ownBlock ≠ some k) : w5.heap[k]? = wr.heap[k]? := by
  refine (hgrow.block k ?_ fun e => hn e.symm).trans ((below_new wr ob).block k hk)
  have : (wr.alloc ob).drew.heap.size = wr.heap.size + 1 := by show (wr.alloc ob).heap.size = _; simp
  omega
end
/-- Every place that a rule names is a place. -/
structure Wh (T : Th) (n : Nat) : Prop where
  n4 : n ≤ 4096
  ln : T.lits = (n : Int)
  rl : T.rules.length ≤ 4096
  bl : ∀ r ∈ T.rules, r.body.length ≤ 16
  bi : ∀ r ∈ T.rules, ∀ x ∈ r.body, 0 ≤ x ∧ x < (n : Int)
  fl : T.foes.length = n
  inn : Inn T
theorem ints_owns {B b : Nat} {w : World} {l : List Int} {a : Option Addr} {c : Nat} (h : w.ownsRow b 3 1 (.slice a l.length c) l.length (ints l)) (hB : w.heap.size ≤ B) (hl : l.length ≤ 140737488351232) : Ints B w l (.slice a l.length c) := by
  have h1 := owns_at1 h
  have hc : l.length ≤ c := by
    rcases h.2 with ⟨e, h0⟩ | ⟨g, cap, cur, e, _, _, hcap, _⟩
    · omega
    · have := (Value.slice.inj e).2; omega
  refine ⟨a, c, rfl, hc, hl, fun i x hi => ?_⟩
  obtain ⟨g, o, e, hcell⟩ := h1 i (.int .i64 x) (by unfold ints; rw [List.getElem?_map, hi]; rfl)
  refine ⟨g, o, [.int .i64 x], e, Nat.lt_of_lt_of_le (World.block_lt_of_cell? w _ hcell) hB, rfl, fun j u hu => ?_, rfl⟩
  match j, hu with
  | 0, hu => simp at hu; subst hu; rw [Nat.mul_one]; exact hcell
section
variable {B rb wb g n : Nat} {R : List Bool} {W : List Int} {wv : Value} {w w' : World}
theorem Co.last (h : Co B rb wb g n R W wv w) {q : List Int} {x : Int} (hq : W = q ++ [x]) : ∃ g0 c, wv = .slice (some ⟨g0, 0, none⟩) (q.length + 1) c ∧ q.length + 1 ≤ c ∧ w.cell? ⟨g0, q.length, none⟩ = some (.int .i64 x) := by
  have hi : (ints W)[q.length]? = some (.int .i64 x) := by rw [hq, ints_snoc, ← ints_len (l := q), List.getElem?_append_right (Nat.le_refl _), Nat.sub_self]; rfl
  obtain ⟨g0, c, e, h1, _⟩ := owns_at (owns_down h.ro (Nat.zero_le _)) hi
  have hl : W.length = q.length + 1 := by rw [hq]; simp
  refine ⟨g0, c, by rw [e, hl], ?_, h1⟩
  rcases h.ro.2 with ⟨e2, h0⟩ | ⟨g', cap, cur, e2, _, _, hcap, _⟩
  · omega
  · rw [e] at e2; have := (Value.slice.inj e2).2.2; omega
theorem Co.pop (h : Co B rb wb g n R W wv w) {q : List Int} {x : Int} (hq : W = q ++ [x]) {g0 c : Nat} (he : wv = .slice (some ⟨g0, 0, none⟩) (q.length + 1) c) : Co B rb wb g n R q (.slice (some ⟨g0, 0, none⟩) q.length c) (w.setCell ⟨wb, 0, none⟩ (.slice (some ⟨g0, 0, none⟩) q.length c)) := by
  have hl : W.length = q.length + 1 := by rw [hq]; simp
  have hro := h.ro
  rw [he, hl] at hro
  have hr2 := owns_take (m := q.length) hro (by omega) (by simp)
  have e1 : (ints W).take (q.length * 1) = ints q := by rw [hq, ints_snoc, Nat.mul_one, ← ints_len (l := q), List.take_left]
  rw [e1] at hr2
  refine ⟨h.bx.keep (other_set (fx_ne h.bx h.wx (by decide))), h.wx.set 0 _, h.rr.keep (other_set (fx_ne h.rr h.wx (by decide))), owns_keep hr2 fun k hk => other_set fun e => own_fx hr2 h.wx (by decide) (e ▸ hk), h.lo, h.ln⟩
theorem Co.nil (h : Co B rb wb g n R [] wv w) : ∃ a c, wv = .slice a 0 c := owns_slice h.ro
end
theorem co_start (w : World) (n : Nat) (X : World) (hX : X = ((w.alloc (.cells (Array.replicate n (.bool false)) 4)).alloc (.cells #[.slice (some ⟨w.heap.size, 0, none⟩) n n] 80)).alloc (.cells #[.slice none 0 0] 38)) :
    Co w.heap.size (w.heap.size + 1) (w.heap.size + 1 + 1) w.heap.size n (List.replicate n false) [] (.slice none 0 0) X ∧ Below w.heap.size w X := by
  obtain ⟨h1, h2, h3⟩ := two_boxes w (.cells (Array.replicate n (.bool false)) 4) (.cells #[.slice (some ⟨w.heap.size, 0, none⟩) n n] 80)
  have hs : ((w.alloc (.cells (Array.replicate n (.bool false)) 4)).alloc (.cells #[.slice (some ⟨w.heap.size, 0, none⟩) n n] 80)).heap.size = w.heap.size + 1 + 1 := by simp
  generalize (w.alloc (.cells (Array.replicate n (.bool false)) 4)).alloc (.cells #[.slice (some ⟨w.heap.size, 0, none⟩) n n] 80) = Y at *
  have hy := below_new Y (.cells #[.slice none 0 0] 38)
  have hz := heap_alloc_new Y (.cells #[.slice none 0 0] 38)
  rw [hs] at hz
  subst hX
  refine ⟨⟨(hy.block _ (by omega)).trans h3, hz, ?_, ⟨rfl, .inl ⟨rfl, rfl⟩⟩, by omega, by simp⟩, h1.trans (hy.mono h1.size)⟩
  unfold Fx
  rw [(hy.block _ (by omega)).trans h2, bools_rep]
/-- How much there is to do yet. -/
def toDo (wb g : Nat) (w : World) : Nat := (match w.cell? ⟨wb, 0, none⟩ with | some (.slice _ k _) => k | _ => 0) + (match w.heap[g]? with | some (.cells cs _ _) => (cs.toList.filter fun v => match v with | .bool b => !b | _ => false).length | _ => 0)
theorem Co.toDo {B rb wb g n : Nat} {R : List Bool} {W : List Int} {wv : Value} {w : World} (h : Co B rb wb g n R W wv w) : toDo wb g w = W.length + lackN R := by
  obtain ⟨a, c, rfl⟩ := owns_slice h.ro
  unfold Go.Proofs.Ytdmnoeooljofcaa.Cz.toDo
  rw [h.wx.get (i := 0) rfl, h.rr]
  simp only
  congr 1
  unfold bools lackN
  rw [List.filter_map, List.length_map]
  congr 1
set_option maxRecDepth 100000 in
set_option maxHeartbeats 6400000 in
theorem coneOf_any {w : World} {T : Th} {n : Nat} {fa ra ba : Option Addr} {fc rc bc : Nat} {l : List Int} {a : Option Addr} {c : Nat} (h : TA w.heap.size w T fa fc ra rc ba bc) (hw : Wh T n) (hli : Ints w.heap.size w l (.slice a l.length c)) (hin : ∀ x ∈ l, 0 ≤ x ∧ x < (n : Int)) :
    Calls Try.prog 36 #[tv T fa fc ra rc ba bc, .slice a l.length c] w fun e w' => ∃ (R : List Bool) (xa : Option Addr) (xc : Nat), R.length = n ∧ (∀ y, 0 ≤ y → (hit R y = true ↔ Rch T l y)) ∧ e = .returned (.slice xa (placesM R).length xc) ∧ w'.ownsRow w.heap.size 3 1 (.slice xa (placesM R).length xc) (placesM R).length (ints (placesM R)) ∧ Below w.heap.size w w' := by
  obtain ⟨iB, hiB, zB0, zB1, zB2⟩ := info_parts infoBo
  have HLI := hide hli
  have HIN := hide hin
  clear hli hin
  obtain ⟨iI, hiI, zI0, zI1, zI2⟩ := info_parts infoI
  obtain ⟨iL, hiL, zL0, zL1, zL2⟩ := info_parts infoL
  have hB := below_new w (.cells #[.int .i64 T.lits, .slice fa T.foes.length fc, .slice ra T.rules.length rc, .slice ba T.beats.length bc] 27)
  have hX := heap_alloc_new w (.cells #[.int .i64 T.lits, .slice fa T.foes.length fc, .slice ra T.rules.length rc, .slice ba T.beats.length bc] 27)
  have HL := hide (TR.go hB h)
  have HB := hide hB
  have HX := hide hX
  have HW := hide hw
  have h4 := hw.n4
  have hr4 := hw.rl
  have HN0 := hide hw.ln
  clear h hB hw
  go_enter Try.func36, Try.ntmps36
  go_upto_region 1 with fail
  generalize w.alloc (.cells #[.int .i64 T.lits, .slice fa T.foes.length fc, .slice ra T.rules.length rc, .slice ba T.beats.length bc] 27) = W at *
  obtain ⟨-, c0, c1, c2, c3⟩ := Bt.of hX
  clear hX
  go_upto_region 2 with (at_make; go_must (refine wpList_make_fix _ rfl _ _ 24 rfl 38 iL _ Try.underlying24 hiL zL0 zL1 rfl _ _ n rfl rfl HN0.out HN0.out (by rw [zL2]; omega) (by unfold maxLen; omega) ?_))
  have HV := hide (Hv.start W n)
  have hA := below_new W (.cells (Array.replicate n (.slice none 0 0)) 38)
  have HX1 := hide ((hA.block _ (loc_lt HX.out)).trans HX.out)
  have HL1 := hide (HL.out.keep hA.block)
  have HB1 := hide (HB.out.trans (hA.mono HB.out.size))
  have hszW : (W.alloc (.cells (Array.replicate n (.slice none 0 0)) 38)).heap.size = W.heap.size + 1 := by simp
  have HS1 := hide hszW
  have hQW : w.heap.size < W.heap.size := loc_lt HX.out
  generalize W.alloc (.cells (Array.replicate n (.slice none 0 0)) 38) = W1 at *
  clear hA c0 c1 c2 c3 HX HL HB hszW
  generalize hhb : W.heap.size = hb at *
  obtain ⟨-, c0, c1, c2, c3⟩ := Bt.of HX1.out
  go_upto_region 3 with fail
  clear c0 c1 c2 c3
  go_loopw [20] (fun x wr => ∃ (k : Nat) (H : List (List Int)) (vs : List Value), k ≤ T.rules.length ∧ x = .int .i64 k ∧ Hid (H = headR (T.rules.take k) (List.replicate n [])) ∧ Hid (∀ (i : Nat) m, H[i]? = some m → m.length ≤ k * 16) ∧ Hid (Hv hb n H vs wr) ∧ Hid (Below hb W1 wr)) (fun x _ => T.rules.length - (intOf x).toNat)
  case atStart => exact ⟨0, _, _, by omega, rfl, hide rfl, hide (by intro i m hm; rw [List.take_zero] at hm; unfold headR at hm; rw [List.getElem?_replicate] at hm; split at hm; cases hm; simp; cases hm), HV, hide (Below.refl _ _)⟩
  case round =>
    clear HV
    obtain ⟨k, H, vs, hk, rfl, HH, HK, HV, HB⟩ := hrel
    by_cases hlt : k < T.rules.length
    · obtain ⟨r, hr⟩ := get_at hlt
      obtain ⟨gr, go, bd, bp, rfl, hgr, x0, x1, x2, -, hbl, hbody⟩ := at_R (Rules.keep HB.out.block HL1.out.rules) hr
      have hmem := List.mem_of_getElem? hr
      have hb16 := HW.out.bl r hmem
      have HBI := hide (HW.out.bi r hmem)
      have HBD := hide (hbody.keep fun g hg => (HB.out.block g hg).symm)
      have HR : Hid (headR (T.rules.take (k + 1)) (List.replicate n []) = headB r.head r.body H) := hide (by rw [take_snoc hr, headR_snoc, HH.out])
      have hA := below_new wr (.cells #[.int .i64 r.kind, .int .i64 r.head, .slice bd r.body.length bp] 70)
      have HVq := hide (HV.out.go hA)
      have HBq := hide (HB.out.trans (hA.mono (by have := HB.out.size; have := HS1.out; omega)))
      have HQ : Hid (Fx wr.heap.size 70 [.int .i64 r.kind, .int .i64 r.head, .slice bd r.body.length bp] (wr.alloc (.cells #[.int .i64 r.kind, .int .i64 r.head, .slice bd r.body.length bp] 70))) := hide (heap_alloc_new wr _)
      have hbq : hb < wr.heap.size := by have := HB.out.size; have := HS1.out; omega
      clear hr hmem hbody hA HH HV HB
      go_upto_region 5 with fail
      generalize wr.alloc (.cells #[.int .i64 r.kind, .int .i64 r.head, .slice bd r.body.length bp] 70) = wq at *
      generalize hq : wr.heap.size = q at *
      have y2 := HQ.out.get (i := 2) rfl
      clear x0 x1 x2
      go_upto_region 6 with fail
      clear y2
      go_loopw [27] (fun x ws => ∃ (j : Nat) (G : List (List Int)) (vs : List Value), j ≤ r.body.length ∧ x = .int .i64 j ∧ Hid (G = headB r.head (r.body.take j) H) ∧ Hid (∀ (i : Nat) m, G[i]? = some m → m.length ≤ k * 16 + j) ∧ Hid (Hv hb n G vs ws) ∧ Hid (Below hb W1 ws) ∧ Hid (Fx q 70 [.int .i64 r.kind, .int .i64 r.head, .slice bd r.body.length bp] ws)) (fun x _ => r.body.length - (intOf x).toNat)
      case atStart => exact ⟨0, H, vs, by omega, rfl, hide rfl, HK, HVq, HBq, HQ⟩
      case round =>
        clear HVq HBq HQ HK
        obtain ⟨j, G, vs, hj, rfl, HG, HK, HV, HB, HQ⟩ := hrel
        by_cases hjl : j < r.body.length
        · obtain ⟨x, hx⟩ := get_at hjl
          obtain ⟨gx, ox, rfl, hgx, cx⟩ := at_I (HBD.out.keep HB.out.block) hx
          obtain ⟨hx0, hx1⟩ := HBI.out x (List.mem_of_getElem? hx)
          obtain ⟨xm, rfl⟩ := Int.eq_ofNat_of_zero_le hx0
          have hxn : xm < n := by omega
          obtain ⟨m, ma, mc, hm, hvm, cm, om⟩ := HV.out.at hxn
          have hml := HK.out xm m hm
          have HG2 : Hid (headB r.head (r.body.take (j + 1)) H = addH G xm r.head) := hide (by rw [take_snoc hx, headB_snoc, HG.out])
          have y1 := HQ.out.get (i := 1) rfl
          have fz := HV.out.fx.frz xm
          have hA := below_new wr (.cells #[.int .i64 r.head] 3)
          have hbs : hb + 1 ≤ wr.heap.size := by have := HB.out.size; have := HS1.out; omega
          have HVA := hide (HV.out.go hA)
          have HQA := hide (HQ.out.keep (hA.block _ HQ.out.lt))
          have HOM := hide (owns_keep om fun g hg => hA.block g (owns_lt om hg))
          have cmA := HVA.out.fx.get hvm
          have fzA := HVA.out.fx.frz xm
          have yA := HQA.out.get (i := 1) rfl
          have HSA : Hid ((wr.alloc (.cells #[.int .i64 r.head] 3)).drew.heap.size = wr.heap.size + 1) := hide (by show (wr.alloc (.cells #[.int .i64 r.head] 3)).heap.size = _; simp)
          have HNA : Hid (∀ j u, [Value.int .i64 r.head][j]? = some u → (wr.alloc (.cells #[.int .i64 r.head] 3)).drew.cell? ((⟨wr.heap.size, 0, none⟩ : Addr).add j) = some u) := hide (World.news_of_block (cs := [Value.int .i64 r.head].toArray) (t := 3) (fr := (0, 0)) (heap_alloc_new wr (.cells #[.int .i64 r.head] 3)))
          have HNE : Hid (Value.ownBlock (.slice ma m.length mc) ≠ some hb) := hide (own_fx om HV.out.fx (by decide))
          have HNQ : Hid (Value.ownBlock (.slice ma m.length mc) ≠ some q) := hide (own_fx om HQ.out (by decide))
          have HHI : Hid (∀ g, Value.ownBlock (.slice ma m.length mc) = some g → hb < g) := hide fun g e => by have := (om.lt g e).1; omega
          have HM := hide hm
          have HVM := hide hvm
          clear hx hx0 hx1 hA hm hvm om
          go_upto_region 8 with fail
          go_region_law (refine step_append_lies _ (by rfl) _ _ _ (by rfl) (hb + 1) 3 iI _ 1 8 Try.underlying38 hiI zI0 zI1 zI2 rfl (by decide) (.slice ma m.length mc) m.length (ints m) (by rfl) HOM.out ⟨wr.heap.size, 0, none⟩ 1 1 [.int .i64 r.head] (by rfl) rfl HNA.out (by simp [Value.oneCell']) (by decide) (by unfold maxLen; omega) (by omega) (by rw [HSA.out]; omega) (wr.heap.size + 1) HSA.out ?_; intro gg cap w5 hown hgrow hat hlt5; have o5 := grown_old2 hgrow HV.out.fx.lt HNE.out; have f5 := HV.out.fx.keep o5; have q1 := f5.get HVM.out; have q2 := f5.frz xm; clear o5 f5)
          all_goals
            have HV5 := hide (HV.out.add HM.out HVM.out hown (fun k hk hn => grown_old2 hgrow hk hn) (by rcases hat with h | h; exact .inl h; exact .inr (by omega)))
            have HB5 := hide (HB.out.trans ((grown_low hgrow HHI.out (by omega)).setCell (p := ⟨hb, xm, none⟩) (Nat.le_refl hb) (.slice (some ⟨gg, 0, none⟩) (m.length + 1) cap)))
            have HQ5 := hide ((HQ.out.keep (grown_old2 hgrow HQ.out.lt HNQ.out)).keep (other_set (i := xm) (v := .slice (some ⟨gg, 0, none⟩) (m.length + 1) cap) (show q ≠ hb by omega)))
            rw [← addH_at HM.out] at HV5
            clear hown hgrow hat hlt5 q1 q2 y1 fz cmA fzA yA cm cx
            generalize w5.setCell ⟨hb, xm, none⟩ (.slice (some ⟨gg, 0, none⟩) (m.length + 1) cap) = w6 at *
            go_wp2_with fail
            go_roundw
            case rel => exact ⟨j + 1, _, _, by omega, by go_num, hide HG2.out.symm, hide (by have := addH_le (x := (xm : Int)) (h := r.head) HK.out; intro i m hi; have := this i m hi; omega), HV5, HB5, HQ5⟩
            case measure => simp [intOf]; omega
        · have hjb : r.body.take j = r.body := List.take_of_length_le (by omega)
          have HG2 : Hid (headR (T.rules.take (k + 1)) (List.replicate n []) = G) := hide (by rw [HR.out, HG.out, hjb])
          clear hjb
          go_wp2_with fail
          go_roundw
          case rel => exact ⟨k + 1, G, vs, by omega, by go_num, hide HG2.out.symm, hide (by intro i m hi; have := HK.out i m hi; omega), HV, HB⟩
          case measure => simp [intOf]; omega
    · have hkb : T.rules.take k = T.rules := List.take_of_length_le (by omega)
      have HH2 : Hid (H = headsM T) := hide (by rw [HH.out, hkb]; unfold headsM; rw [HN0.out, Int.toNat_natCast])
      clear hkb HH
      go_upto_region 11 with fail
      subst H
      have hbw : hb + 1 ≤ wr.heap.size := by have := HB.out.size; have := HS1.out; omega
      have HX2 := hide ((HB.out.block _ hQW).trans HX1.out)
      have HF2 := hide (Lists.keep HB.out.block HL1.out.foes)
      have HLw := hide (Ints.keep HB.out.block (Ints.mono (Nat.le_of_lt hQW) (Ints.keep HB1.out.block HLI.out)))
      have HBw := hide (HB1.out.trans (HB.out.mono (Nat.le_of_lt hQW)))
      clear HX1 HL1 HB HB1 HS1 HLI
      obtain ⟨-, c0, c1, c2, c3⟩ := Bt.of HX2.out
      have hmk := fun W => run_make_fix (P := Try.prog) Try.underlying80 hiB zB0 zB1 rfl n (by rw [zB2]; omega) (by unfold maxLen; omega) W
      rw [HN0.out] at c0
      go_upto_region 14 with fail
      clear c0 c1 c2 c3 hmk
      obtain ⟨hco, hbc⟩ := co_start wr n _ rfl
      generalize ((wr.alloc (.cells (Array.replicate n (.bool false)) 4)).alloc (.cells #[.slice (some ⟨wr.heap.size, 0, none⟩) n n] 80)).alloc (.cells #[.slice none 0 0] 38) = wc at *
      generalize hB : wr.heap.size = B at *
      have HST := hide (Ci.start (T := T) (a := l) (by rw [HN0.out]; omega) (by rw [HN0.out]; exact HIN.out))
      rw [HN0.out, Int.toNat_natCast] at HST
      have CR := hide (reach_any (w := wc) (l := l) (a := a) (c := c) ⟨_, hco⟩ (by have := hbc.size; omega) (Ints.mono (by omega) (Ints.keep (fun g hg => hbc.block g (by omega)) HLw.out)) HIN.out (by have := lack_none (n := n); simp; omega))
      have HBC := hide hbc
      clear hco hbc HLw
      go_upto_region 15 with (go_at_call 57; refine CR.out.mono ?_; rintro _ wd ⟨rfl, hco, hwd⟩; have HCO := hide hco; have HBD := hide (HBC.out.trans hwd); clear hco hwd)
      clear CR HBC
      generalize reachM l (List.replicate n false, []) = s0 at *
      obtain ⟨R0, W0⟩ := s0
      simp only at HST HCO
      have HXz := hide (fun X (hX : Below B wr X) => (hX.block _ (by omega)).trans HX2.out)
      have HFz := hide (fun X (hX : Below B wr X) => Lists.mono (N' := B) (by omega) (Lists.keep (fun g hg => hX.block g (by omega)) HF2.out))
      have HVz := hide (fun X (hX : Below B wr X) => HV.out.keep (w' := X) (fun g _ hg => hX.block g (by omega)))
      clear HX2 HF2
      go_loopw [13] (fun x ws => ∃ (R : List Bool) (Wl : List Int), Hid (∃ wv, Co B (B + 1) (B + 1 + 1) B n R Wl wv ws) ∧ Hid (Ci T l R Wl) ∧ Hid (lackN R + Wl.length ≤ n) ∧ Hid (Below B wr ws)) (fun _ ws => toDo (B + 1 + 1) B ws)
      case atStart => exact ⟨R0, W0, HCO, hide HST.out.1, hide (by have := HST.out.2; omega), HBD⟩
      case round =>
        clear HST HCO HBD
        obtain ⟨R, Wl, HCO, HCI, HLA, HB⟩ := hrel
        obtain ⟨wv, hc⟩ := HCO.out
        clear HCO
        rcases List.eq_nil_or_concat Wl with e | ⟨q, x, e⟩
        · subst e
          obtain ⟨a0, k0, rfl⟩ := hc.nil
          have cw := hc.wx.get (i := 0) rfl
          have cb := hc.bx.get (i := 0) rfl
          have CP := placesOf_any (c := n) hc.rr (by rw [hc.ln]; omega)
          rw [hc.ln] at CP
          have HCP := hide CP
          have HC := hide hc
          have hBw : B ≤ wr.heap.size := by have := HB.out.size; omega
          clear CP hc
          go_wp2_with (go_at_call 58; refine HCP.out.mono ?_; rintro _ wz ⟨xa, xc, rfl, ho, hwz⟩; have HO := hide ho; have HWz := hide hwz; clear ho hwz)
          go_ret
          have hsz := HBw.out.size
          exact ⟨R, xa, xc, HC.out.ln, fun y hy => HCI.out.done HW.out.inn (by rw [HN0.out]; exact HIN.out) hy, rfl, owns_down HO.out (by omega), HBw.out.trans ((HB.out.trans (HWz.out.mono hBw)).mono (by omega))⟩
        · rw [List.concat_eq_append] at e
          subst e
          have hTd := hc.toDo
          have HTD := hide hTd
          obtain ⟨x0, x1, -⟩ := HCI.out.wait x (by simp)
          rw [HN0.out] at x1
          obtain ⟨xm, rfl⟩ := Int.eq_ofNat_of_zero_le x0
          have hxn : xm < n := by omega
          obtain ⟨g0, cc, rfl, hcc, cl⟩ := hc.last rfl
          have cw := hc.wx.get (i := 0) rfl
          have fw := hc.wx.frz 0
          have hql : q.length + 1 ≤ 4096 := by have := HLA.out; simp at this; omega
          have HP := hide (hc.pop rfl rfl)
          have HB2 := hide (HB.out.setCell (p := ⟨B + 1 + 1, 0, none⟩) hc.lo.2.1 (.slice (some ⟨g0, 0, none⟩) q.length cc))
          obtain ⟨fl, hfl⟩ := get_at (l := T.foes) (i := xm) (by rw [HW.out.fl]; exact hxn)
          obtain ⟨m, ma, mc, hm, hvm, -, om⟩ := HV.out.at hxn
          have hml := HK.out xm m hm
          have HIM := hide (ints_owns (B := B) om (by omega) (by omega))
          have HVM := hide hvm
          have HFr : Hid (row T.foes (xm : Int) = fl) := hide (row_at (by simpa using hfl))
          have HHr : Hid (row (headsM T) (xm : Int) = m) := hide (row_at (by simpa using hm))
          have HNX := hide (HCI.out.next HW.out.inn (x := (xm : Int)) (by simp))
          have HFL := hide hfl
          clear hTd x0 x1 hc HB om hm hvm hfl
          go_upto_region 18 with fail
          generalize wr.setCell ⟨B + 1 + 1, 0, none⟩ (.slice (some ⟨g0, 0, none⟩) q.length cc) = w2 at *
          clear cw fw cl
          obtain ⟨-, d0, d1, d2, d3⟩ := Bt.of (HXz.out _ HB2.out)
          obtain ⟨g6, o6, la, lc, rfl, -, kl, -, hll, hI⟩ := at_L (HFz.out _ HB2.out) HFL.out
          have hinF : ∀ y ∈ fl, 0 ≤ y ∧ y < (n : Int) := fun y hy => by rw [← HFr.out] at hy; have := HW.out.inn.foe _ _ hy; rw [HN0.out] at this; exact this
          have hinM : ∀ y ∈ m, 0 ≤ y ∧ y < (n : Int) := fun y hy => by
            rw [← HHr.out] at hy
            obtain ⟨r, hr, _, rfl⟩ := (headsM_mem HW.out.inn.body (by omega)).1 hy
            have := HW.out.inn.head r hr
            rw [HN0.out] at this
            exact this
          have hs1 : lackN R + q.length ≤ 4096 := by have := HLA.out; simp at this; omega
          have rc1 := reach_rc (l := fl) (R := R) (W := q) fun y hy => by have := hinF y hy; have := HP.out.ln; omega
          have hBw2 : B ≤ w2.heap.size := by have := HB2.out.size; omega
          have hfn : xm < T.foes.length := by rw [HW.out.fl]; exact hxn
          have C1 := hide (reach_any ⟨_, HP.out⟩ hBw2 hI hinF hs1)
          have HRS : Hid (lackN (reachM fl (R, q)).1 + (reachM fl (R, q)).2.length ≤ 4096) := hide (by have := rc1.sum; omega)
          clear rc1 hI HP hll
          go_upto_region 19 with (go_at_call 57; refine C1.out.mono ?_; rintro _ w3 ⟨rfl, hco, hw3⟩; have HC3 := hide hco; have HB3 := hide (HB2.out.trans hw3); clear hco hw3)
          clear C1 d0 d1 d2 d3 kl HB2
          have cm := (HVz.out _ HB3.out).fx.get HVM.out
          have hBw3 : B ≤ w3.heap.size := by have := HB3.out.size; omega
          have C2 := hide (reach_any (l := m) (R := (reachM fl (R, q)).1) (W := (reachM fl (R, q)).2) HC3.out hBw3 (HIM.out.keep HB3.out.block) hinM HRS.out)
          have HE : Hid ((reachM m (reachM fl (R, q))) = (reachM (row (headsM T) (xm : Int)) (reachM (row T.foes (xm : Int)) (R, (q ++ [(xm : Int)]).dropLast)))) := hide (by rw [HFr.out, HHr.out]; simp)
          go_wp2_with (go_at_call 57; refine C2.out.mono ?_; rintro _ w4 ⟨rfl, hco, hw4⟩; have HC4 := hide hco; have HB4 := hide (HB3.out.trans hw4); clear hco hw4)
          have HC5 : Hid (∃ wv, Co B (B + 1) (B + 1 + 1) B n (reachM (row (headsM T) (xm : Int)) (reachM (row T.foes (xm : Int)) (R, (q ++ [(xm : Int)]).dropLast))).1 (reachM (row (headsM T) (xm : Int)) (reachM (row T.foes (xm : Int)) (R, (q ++ [(xm : Int)]).dropLast))).2 wv w4) := hide (by rw [← HE.out]; exact HC4.out)
          go_roundw
          case rel => exact ⟨_, _, HC5, hide HNX.out.1, hide (by have := HNX.out.2; have := HLA.out; omega), HB4⟩
          case measure =>
            obtain ⟨_, h5⟩ := HC5.out
            have := h5.toDo
            have := HTD.out
            have := HNX.out.2
            omega
end Go.Proofs.Ytdmnoeooljofcaa.Cz
