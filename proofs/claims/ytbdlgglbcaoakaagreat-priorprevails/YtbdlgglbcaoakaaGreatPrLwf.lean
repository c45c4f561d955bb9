/- lowestFirst. -/
import Derived.Test.YtbdlgglbcaoakaaGreatPfQ
namespace Go.Proofs.YtbdlgglbcaoakaaGreat.Pr
open Go.RowKit

def zn (l : List Nat) : List Int := l.map fun k : Nat => (k : Int)
theorem zn_snoc {l : List Nat} {k : Nat} : zn (l ++ [k]) = zn l ++ [(k : Int)] := by unfold zn; simp
theorem zn_len {l : List Nat} : (zn l).length = l.length := by unfold zn; simp
/-- What waits, a heap, an order. -/
structure Kq (B tb hb : Nat) (hv ov : Value) (A l : List Int) (out : List Nat) (w : World) : Prop where
  fa : Fx tb 3 (ints A) w
  hq : Hq B hb hv l w
  ro : w.ownsRow B 3 1 ov out.length (ints (zn out))
  n1 : hv.ownBlock ≠ some tb
  n2 : ov.ownBlock ≠ some tb
  n3 : ∀ g, ov.ownBlock = some g → hv.ownBlock ≠ some g
  lo : B ≤ tb
section
variable {B tb hb : Nat} {hv hv' ov : Value} {A l l' : List Int} {out : List Nat} {w w' : World}
theorem Kq.heap (h : Kq B tb hb hv ov A l out w) (hq : Hq B hb hv' l' w') (hf : Hf hb hv hv' w w') : Kq B tb hb hv' ov A l' out w' := by
  have ht : tb ≠ hb := fx_ne h.fa h.hq.bx (by decide)
  have hov : ov.ownBlock ≠ some hb := own_fx h.ro h.hq.bx (by decide)
  have hnew : ∀ g, g < w.heap.size → hv.ownBlock ≠ some g → hv'.ownBlock ≠ some g := fun g hg hn e => by
    rcases hf.2 with e2 | ⟨k, e2, hk⟩
    · exact hn (e2 ▸ e)
    · rw [e2] at e; cases e; omega
  refine ⟨h.fa.keep (hf.1.block tb h.fa.lt fun e => ?_), hq, owns_keep h.ro fun g hg => hf.1.block g (owns_lt h.ro hg) fun e => ?_, hnew tb h.fa.lt h.n1, h.n2, fun g hg => hnew g (owns_lt h.ro hg) (h.n3 g hg), h.lo⟩
  · rcases e with e | e
    · exact ht e
    · exact h.n1 e
  · rcases e with e | e
    · exact hov (e ▸ hg)
    · exact h.n3 g hg e
theorem Kq.below (h : Kq B tb hb hv ov A l out w) (hf : Hf hb hv hv' w w') (hB : B ≤ w.heap.size) : Below B w w' := hf.1.below fun k hk => ⟨by omega, fun e => by
  rcases e with e | e
  · have := h.hq.lo; omega
  · have := (h.hq.ro.lt k e).1; omega⟩
theorem Kq.dec (h : Kq B tb hb hv ov A l out w) (k : Nat) (v : Int) : Kq B tb hb hv ov (A.set k v) l out (w.setCell ⟨tb, k, none⟩ (.int .i64 v)) := by
  have ht : hb ≠ tb := fun e => fx_ne h.fa h.hq.bx (by decide) e.symm
  refine ⟨by rw [← ints_set]; exact h.fa.set k _, h.hq.keep fun j hj => other_set fun e => ?_, owns_keep h.ro fun g hg => other_set fun e => h.n2 (e ▸ hg), h.n1, h.n2, h.n3, h.lo⟩
  rcases hj with hj | hj
  · exact ht (hj.symm.trans e)
  · exact h.n1 (e ▸ hj)
theorem Kq.more (h : Kq B tb hb hv ov A l out w) {k g4 cap4 : Nat} {ob : Obj} (hown : w'.ownsRow B 3 1 (.slice (some ⟨g4, 0, none⟩) (out.length + 1) cap4) (out.length + 1) (ints (zn out) ++ [.int .i64 k]))
    (hg : (ov.ownBlock = some g4 ∧ (w.alloc ob).grownBy w' (some g4)) ∨ (g4 = w.heap.size + 1 ∧ (w.alloc ob).grownBy w' none)) :
    Kq B tb hb hv (.slice (some ⟨g4, 0, none⟩) (out.length + 1) cap4) A l (out ++ [k]) w' ∧ (B ≤ w.heap.size → Below B w w') := by
  have ho : ∀ k, k < w.heap.size → ov.ownBlock ≠ some k → w'.heap[k]? = w.heap[k]? := fun k hk hn => grown_old rfl hg hk hn
  have hov : ov.ownBlock ≠ some hb := own_fx h.ro h.hq.bx (by decide)
  have hnew : ∀ g, g < w.heap.size → ov.ownBlock ≠ some g → g4 ≠ g := fun g hl hn e => by
    rcases hg with ⟨e2, _⟩ | ⟨e2, _⟩
    · exact hn (e ▸ e2)
    · omega
  refine ⟨⟨h.fa.keep (ho tb h.fa.lt h.n2), h.hq.keep fun j hj => ho j ?_ ?_, by rw [List.length_append, zn_snoc, ints_snoc]; exact hown, h.n1, fun e => hnew tb h.fa.lt h.n2 (by simpa [Value.ownBlock] using e), fun g e e2 => ?_, h.lo⟩, fun hB => ?_⟩
  · rcases hj with hj | hj
    · rw [hj]; exact h.hq.bx.lt
    · exact owns_lt h.hq.ro hj
  · rcases hj with hj | hj
    · rw [hj]; exact hov
    · exact fun e => h.n3 j e hj
  · have e' : g4 = g := by simpa [Value.ownBlock] using e
    exact hnew g (owns_lt h.hq.ro e2) (fun e3 => h.n3 g e3 e2) e'
  · exact (grown_fr (Z := fun k => B ≤ k) rfl hg fun g e => (h.ro.lt g e).1).below fun k hk => ⟨by omega, by omega⟩
end
theorem t_rdy (hb : Nat) (w : World) : (Instr.makeInterface 102 (ptr hb)).run Tryz.prog w = .ok (rdy hb) w := by kernel_rfl
theorem t_any (x : Int) (w : World) : (Instr.makeInterface 3 (.int .i64 x)).run Tryz.prog w = .ok (.iface 3 (.int .i64 x)) w := by kernel_rfl
set_option maxRecDepth 100000 in
set_option maxHeartbeats 12800000 in
theorem lowest_any {w : World} {next : List (List Int)} {a : Option Addr} {c : Nat} (h : Lists w.heap.size w next (.slice a next.length c)) (hn : next.length ≤ 1048576) (ht : total next ≤ 1048576) :
    Calls Tryz.prog 25 #[.slice a next.length c] w fun e w' => ∃ out ov, e = .returned ov ∧ Kahn next out ∧ KMax next out ∧ w'.ownsRow w.heap.size 3 1 ov out.length (ints (zn out)) ∧ Below w.heap.size w w' := by
  obtain ⟨iI, hiI, zI0, zI1, zI2⟩ := info_parts infoI
  have C1 := hide (awaits_any h (Nat.le_refl _) hn ht)
  have HL := hide h
  have HRL : Hid (∀ (i : Nat) (l : List Int), next[i]? = some l → l.length ≤ 1048576) := hide fun i l hi => Nat.le_trans (row_le hi) ht
  obtain ⟨n, hnn⟩ : ∃ n, next.length = n := ⟨_, rfl⟩
  have HNN := hide hnn
  rw [hnn] at hn C1 ⊢
  clear h hnn
  go_enter Tryz.func25, Tryz.ntmps25
  go_upto_region 2 with (go_at_call 42; refine C1.out.mono ?_; rintro e w1 ⟨rfl, hT, hB1⟩; have HT := hide hT; have HB1 := hide hB1; clear hT hB1)
  clear C1
  obtain ⟨A, hA, hFA⟩ := HT.out
  have HA := hide hA
  have HFA := hide hFA
  clear HT hA hFA
  have hs1 : w.heap.size < w1.heap.size := HFA.out.lt
  go_upto_region 3 with fail
  have hbA := below_new w1 (.cells #[.slice none 0 0] 105)
  have HK0 : Hid (Kq w.heap.size w.heap.size w1.heap.size (.slice none 0 0) (.slice none 0 0) A [] [] (w1.alloc (.cells #[.slice none 0 0] 105))) := hide ⟨HFA.out.keep (hbA.block _ hs1), ⟨heap_alloc_new w1 _, ⟨rfl, .inl ⟨rfl, rfl⟩⟩, by omega⟩, ⟨rfl, .inl ⟨rfl, rfl⟩⟩, by simp [Value.ownBlock], by simp [Value.ownBlock], (fun g e => by cases e), Nat.le_refl _⟩
  have HB0 : Hid (Below w.heap.size w (w1.alloc (.cells #[.slice none 0 0] 105))) := hide (HB1.out.trans (hbA.mono (by omega)))
  clear hbA HFA HB1
  generalize w1.alloc (.cells #[.slice none 0 0] 105) = w2 at *
  generalize w1.heap.size = hb at *
  have hti := t_rdy hb
  go_wp2_with fail
  go_loopw [17] (fun x wr => ∃ (i : Nat) (l : List Int) (hv : Value), i ≤ n ∧ x = .int .i64 i ∧ Hid (K1 A l i) ∧ Hid (Kq w.heap.size w.heap.size hb hv (.slice none 0 0) A l [] wr) ∧ Hid (Below w.heap.size w wr)) (fun x _ => n - (intOf x).toNat)
  case atStart => exact ⟨0, [], _, by omega, rfl, hide K1.start, HK0, HB0⟩
  case round =>
    clear HK0 HB0
    obtain ⟨i, l, hv, hi, rfl, H1, HK, HB⟩ := hrel
    by_cases hlt : i < n
    · have hAl : i < A.length := by rw [HA.out.1, HNN.out]; exact hlt
      have ck := HK.out.fa.get (ints_at hAl)
      have hll := H1.out.len
      by_cases h0 : A.getD i 0 = 0
      · have C2 := hide (heapPush_any (x := (i : Int)) HK.out.hq H1.out.hp HB.out.size (by omega))
        have H1M : Hid (∀ l', l'.Perm (l ++ [(i : Int)]) → Hpl l' l'.length → K1 A l' (i + 1)) := hide fun l' p q => H1.out.more h0 p q
        rw [h0] at ck
        have hta := t_any (i : Int)
        clear h0 H1
        go_wp2_with (go_at_call 43; refine C2.out.mono ?_; rintro e w3 ⟨rfl, hv3, l3, p1, p2, p3, p4⟩; have HK3 := hide (HK.out.heap p3 p4); have HB3 := hide (HB.out.trans (HK.out.below p4 HB.out.size)); have H3 := hide (H1M.out l3 p1 p2); clear p1 p2 p3 p4)
        go_roundw
        case rel => exact ⟨i + 1, l3, hv3, by omega, by go_num, H3, HK3, HB3⟩
        case measure => simp [intOf]; omega
      · have H1M := hide (H1.out.skip h0)
        generalize A.getD i 0 = z at *
        have hbb : (z == 0) = false := beq_eq_false_iff_ne.2 h0
        clear h0 H1
        go_wp2_with fail
        go_roundw
        case rel => exact ⟨i + 1, l, hv, by omega, by go_num, H1M, HK, HB⟩
        case measure => simp [intOf]; omega
    · have H1M : Hid (K1 A l n) := hide (by have := H1.out; rw [show i = n by omega] at this; exact this)
      have HKI : Hid (Ki next [] [] A l) := hide (Ki.start (by rw [HNN.out]; exact HA.out) (by rw [HNN.out]; exact H1M.out))
      clear H1 H1M HA
      go_wp2_with fail
      go_loopw [7] (fun x ws => ∃ (out : List Nat) (A l : List Int) (hv ov : Value), x = ov ∧ (∃ oa oc, ov = .slice oa out.length oc) ∧ out.length ≤ n ∧ Hid (Ki next out [] A l) ∧ Hid (Kq w.heap.size w.heap.size hb hv ov A l out ws) ∧ Hid (Below w.heap.size w ws)) (fun x _ => n - (match x with | .slice _ k _ => k | _ => 0))
      case atStart => exact ⟨[], A, l, hv, _, rfl, ⟨none, 0, rfl⟩, by simp, HKI, HK, HB⟩
      case round =>
        clear HKI HK HB
        obtain ⟨out, A, l, hv, ov, rfl, ⟨oa, oc, rfl⟩, hol, HKI, HK, HB⟩ := hrel
        obtain ⟨ha, hc, hhv⟩ := HK.out.hq.len
        have c0 := HK.out.hq.bx.get (i := 0) rfl
        rw [hhv] at c0
        clear hhv
        by_cases hle : l = []
        · subst hle
          have HMx := hide HKI.out.done
          have HKh := hide HKI.out.kh
          have HRo := hide HK.out.ro
          rw [List.length_nil] at c0
          go_wp2_with (go_at_call 44; refine (len_any _ _ _ _).mono ?_; rintro e w3 ⟨rfl, hw3⟩; subst w3)
          go_ret
          exact ⟨out, _, rfl, HKh.out, HMx.out, HRo.out, HB.out⟩
        · obtain ⟨k, hk0, hkn, hfree, hleast⟩ := HKI.out.top hle
          have hll : l.length ≤ n := by have := HKI.out.len; rw [HNN.out] at this; exact this
          have hlp : 0 < l.length := by cases l with | nil => exact absurd rfl hle | cons _ _ => simp
          have C3 := hide (heapPop_any HK.out.hq HKI.out.hp hle (by omega))
          rw [hk0] at C3
          have HPop : Hid (∀ l', (l' ++ [(k : Int)]).Perm l → Hpl l' l'.length → Ki next (out ++ [k]) (next.getD k []) A l') := hide fun l' p q => HKI.out.pop hkn hfree hleast p q
          have htk := t_int (k : Int)
          obtain ⟨m0, hm0⟩ : ∃ m0, l.length = m0 := ⟨_, rfl⟩
          rw [hm0] at c0 hlp
          rw [HNN.out] at hkn
          clear hk0 hfree hleast hle hll hm0 HKI
          go_upto_region 12 with (first | (go_at_call 44; refine (len_any _ _ _ _).mono ?_; rintro e w3 ⟨rfl, hw3⟩; subst w3) | (go_at_call 45; refine C3.out.mono ?_; rintro e w3 ⟨rfl, hv3, l3, p1, p2, p3, p4⟩; have HK3 := hide (HK.out.heap p3 p4); have HB3 := hide (HB.out.trans (HK.out.below p4 HB.out.size)); have HKI3 := hide (HPop.out l3 p1 p2); clear p1 p2 p3 p4))
          clear C3 HPop c0 HK HB hlp htk
          obtain ⟨K, hK⟩ : ∃ K, out.length = K := ⟨_, rfl⟩
          have HKK := hide hK
          have hA := below_new w3 (.cells #[.int .i64 k] 3)
          have HROW : Hid ((w3.alloc (.cells #[.int .i64 k] 3)).ownsRow w.heap.size 3 1 (.slice oa K oc) K (ints (zn out))) := hide (by
            have := owns_keep HK3.out.ro fun g hg => hA.block g (owns_lt HK3.out.ro hg)
            rw [HKK.out] at this
            exact this)
          have hKn : K + 1 ≤ n := by have := kahn_len HKI3.out.kh; rw [List.length_append, HNN.out, HKK.out] at this; exact this
          have hs3 := HB3.out.size
          rw [hK] at hol ⊢
          clear hA hK
          go_upto_region 13 with (at_builtin; go_must (refine wpList_append_two _ rfl _ _ 57 rfl w.heap.size 3 iI _ 1 8 Tryz.underlying57 hiI zI0 zI1 zI2 rfl (by decide) _ _ (ints (zn out)) rfl HROW.out ⟨w3.heap.size, 0, none⟩ 1 [.int .i64 k] rfl rfl (cell_one_new _ _ _) (by intro u hu; simp at hu; subst hu; rfl) (by unfold maxLen; omega) (by omega) (by simp; omega) ?_); intro g4 cap4 w4 hown4 hg4; have HM4 := hide (HK3.out.more (k := k) (g4 := g4) (cap4 := cap4) (w' := w4) (by rw [HKK.out]; exact hown4) (by rw [HKK.out]; rcases hg4 with h | ⟨h1, h2⟩; exact .inl h; exact .inr ⟨by simpa using h1, h2⟩)); clear hown4 hg4)
          have HK4 := hide HM4.out.1
          have HB4 := hide (HB3.out.trans (HM4.out.2 HB3.out.size))
          rw [HKK.out] at HK4
          clear HM4 HROW HK3 HB3 hs3
          obtain ⟨r, hr⟩ := get_at (l := next) (i := k) (by rw [HNN.out]; exact hkn)
          obtain ⟨g1, o1, a2, c2, rfl, hg1, hc0, hrc, _, hI⟩ := at_L HL.out hr
          have hc1 : w4.cell? ⟨g1, o1 + k, none⟩ = some (.slice a2 r.length c2) := (World.cell?_of_block (HB4.out.block g1 hg1)).trans hc0
          have HKI4 : Hid (Ki next (out ++ [k]) (r.drop 0) A l3) := hide (by have := HKI3.out; rw [List.getD_eq_getElem?_getD, hr] at this; exact this)
          have HI := hide hI
          have hrl := HRL.out k r hr
          obtain ⟨m, hm⟩ : ∃ m, r.length = m := ⟨_, rfl⟩
          rw [hm] at hc1 hrc HI hrl
          have HMM := hide hm
          clear hr hI hm hc0 HKI3
          go_wp2_with fail
          go_loopw [49] (fun x ws => ∃ (j : Nat) (A l : List Int) (hv : Value), j ≤ m ∧ x = .int .i64 j ∧ Hid (Ki next (out ++ [k]) (r.drop j) A l) ∧ Hid (Kq w.heap.size w.heap.size hb hv (.slice (some ⟨g4, 0, none⟩) (K + 1) cap4) A l (out ++ [k]) ws) ∧ Hid (Below w.heap.size w ws)) (fun x _ => m - (intOf x).toNat)
          case atStart => exact ⟨0, A, l3, hv3, by omega, rfl, HKI4, HK4, HB4⟩
          case round =>
            clear HKI4 HK4 HB4 hc1
            obtain ⟨j, A, l3, hv3, hj, rfl, HKI, HK, HB⟩ := hrel
            by_cases hjt : j < m
            · obtain ⟨z, hz⟩ := get_at (l := r) (i := j) (by rw [HMM.out]; exact hjt)
              obtain ⟨g2, o2, rfl, hg2, hcz0⟩ := at_I HI.out hz
              have hcz : wr.cell? ⟨g2, o2 + j, none⟩ = some (.int .i64 z) := (World.cell?_of_block (HB.out.block g2 hg2)).trans hcz0
              have HD : Hid (Ki next (out ++ [k]) (z :: r.drop (j + 1)) A l3) := hide (by have := HKI.out; rw [drop_at hz] at this; exact this)
              clear hz hcz0 HKI
              cases hin : inN z n with
              | true =>
                have hzz := inN_iff.1 hin
                obtain ⟨o, rfl⟩ := Int.eq_ofNat_of_zero_le hzz.1
                have hon : o < n := by omega
                have hon' : o < next.length := by rw [HNN.out]; exact hon
                have hbd := HD.out.bound hon'
                have hpos := HD.out.pos hon'
                have hrj : (((o : Int) :: r.drop (j + 1)).length) ≤ 1048577 := by rw [List.length_cons, List.length_drop, HMM.out]; omega
                have kc := HK.out.fa.get (ints_at (l := A) (i := o) (by rw [HD.out.la]; exact hon'))
                have kf := HK.out.fa.frz o
                have HKd := hide (HK.out.dec o (A.getD o 0 - 1))
                have HB2 := hide (HB.out.setCell (p := ⟨w.heap.size, o, none⟩) (Nat.le_refl _) (.int .i64 (A.getD o 0 - 1)))
                have hb2 : 1 ≤ A.getD o 0 ∧ A.getD o 0 ≤ 4194304 := by omega
                by_cases h0 : A.getD o 0 - 1 = 0
                · have HLs : Hid (∀ l', l'.Perm (l3 ++ [(o : Int)]) → Hpl l' l'.length → Ki next (out ++ [k]) (r.drop (j + 1)) (A.set o (A.getD o 0 - 1)) l') := hide fun l' p q => HD.out.last hon' h0 p q
                  have hll : l3.length ≤ n := by have := HD.out.len; rw [HNN.out] at this; exact this
                  have C5 := hide (heapPush_any (x := (o : Int)) HKd.out.hq HD.out.hp HB2.out.size (by omega))
                  have hta := t_any (o : Int)
                  have kc2 : (wr.setCell ⟨w.heap.size, o, none⟩ (.int .i64 (A.getD o 0 - 1))).cell? ⟨w.heap.size, o, none⟩ = some (.int .i64 (A.getD o 0 - 1)) := World.cell?_setCell_same' wr _ _ (by rw [kc]; rfl)
                  generalize hgt : A.getD o 0 = t at *
                  have hbb : (t - 1 == 0) = true := by rw [h0]; rfl
                  clear HD hbd hpos hrj hgt hzz hll h0
                  go_upto_region 18 with (go_at_call 10; refine (within_any _ _ _).mono ?_; rw [hin]; rintro e w6 ⟨rfl, hw6⟩; subst w6)
                  clear kc kf hcz
                  generalize wr.setCell ⟨w.heap.size, o, none⟩ (.int .i64 (t - 1)) = w5 at *
                  go_wp2_with (go_at_call 43; refine C5.out.mono ?_; rintro e w6 ⟨rfl, hv6, l6, p1, p2, p3, p4⟩; have HK6 := hide (HKd.out.heap p3 p4); have HB6 := hide (HB2.out.trans (HKd.out.below p4 HB2.out.size)); have H6 := hide (HLs.out l6 p1 p2); clear p1 p2 p3 p4)
                  go_roundw
                  case rel => exact ⟨j + 1, _, l6, hv6, by omega, by go_num, H6, HK6, HB6⟩
                  case measure => simp [intOf]; omega
                · have HDc := hide (HD.out.dec hon' h0)
                  have kc2 : (wr.setCell ⟨w.heap.size, o, none⟩ (.int .i64 (A.getD o 0 - 1))).cell? ⟨w.heap.size, o, none⟩ = some (.int .i64 (A.getD o 0 - 1)) := World.cell?_setCell_same' wr _ _ (by rw [kc]; rfl)
                  generalize hgt : A.getD o 0 = t at *
                  have hbb : (t - 1 == 0) = false := beq_eq_false_iff_ne.2 h0
                  clear HD hbd hpos hrj hgt hzz h0
                  go_upto_region 18 with (go_at_call 10; refine (within_any _ _ _).mono ?_; rw [hin]; rintro e w6 ⟨rfl, hw6⟩; subst w6)
                  clear kc kf hcz
                  generalize wr.setCell ⟨w.heap.size, o, none⟩ (.int .i64 (t - 1)) = w5 at *
                  go_wp2_with fail
                  go_roundw
                  case rel => exact ⟨j + 1, _, l3, hv3, by omega, by go_num, HDc, HKd, HB2⟩
                  case measure => simp [intOf]; omega
              | false =>
                have HD2 := hide (HD.out.skip (by rw [HNN.out]; exact hin))
                clear HD
                go_wp2_with (go_at_call 10; refine (within_any _ _ _).mono ?_; rw [hin]; rintro e w6 ⟨rfl, hw6⟩; subst w6)
                go_roundw
                case rel => exact ⟨j + 1, A, l3, hv3, by omega, by go_num, HD2, HK, HB⟩
                case measure => simp [intOf]; omega
            · have HKE : Hid (Ki next (out ++ [k]) [] A l3) := hide (by have := HKI.out; rw [drop_end (by rw [HMM.out]; omega)] at this; exact this)
              clear HKI
              go_wp2_with fail
              go_roundw
              case rel => exact ⟨out ++ [k], A, l3, hv3, _, rfl, ⟨some ⟨g4, 0, none⟩, cap4, by rw [List.length_append, HKK.out]; rfl⟩, by rw [List.length_append, HKK.out]; exact hKn, HKE, HK, HB⟩
              case measure => have := HKK.out; simp; omega
end Go.Proofs.YtbdlgglbcaoakaaGreat.Pr
