/- The page's Order. -/
import Derived.Test.YtjaffhajehcnpaaRfM
namespace Go.Proofs.Ytjaffhajehcnpaa
open Go.RowKit

/-- What waits, what is gone, an order. -/
structure Rq (B ob gb : Nat) (ov : Value) (O : List Int) (G : List Bool) (out : List Nat) (w : World) : Prop where
  fo : Fx ob 3 (ints O) w
  fg : Fx gb 4 (bools G) w
  ro : w.ownsRow B 3 1 ov out.length (ints (zn out))
  n2 : ov.ownBlock ≠ some ob
  lo : B ≤ ob ∧ B ≤ gb
section
variable {B ob gb : Nat} {ov : Value} {O : List Int} {G : List Bool} {out : List Nat} {w w' : World}
theorem Rq.over (h : Rq B ob gb ov O G out w) (k : Nat) (v : Int) : Rq B ob gb ov (O.set k v) G out (w.setCell ⟨ob, k, none⟩ (.int .i64 v)) :=
  ⟨by rw [← ints_set]; exact h.fo.set k _, h.fg.keep (other_set (fx_ne h.fg h.fo (by decide))), owns_keep h.ro fun g hg => other_set fun e => h.n2 (e ▸ hg), h.n2, h.lo⟩
theorem Rq.gone (h : Rq B ob gb ov O G out w) (k : Nat) : Rq B ob gb ov O (G.set k true) out (w.setCell ⟨gb, k, none⟩ (.bool true)) :=
  ⟨h.fo.keep (other_set (fx_ne h.fo h.fg (by decide))), by rw [← bools_set]; exact h.fg.set k _, owns_keep h.ro fun g hg => other_set fun e => own_fx h.ro h.fg (by decide) (e ▸ hg), h.n2, h.lo⟩
theorem Rq.more (h : Rq B ob gb ov O G out w) {k g4 cap4 : Nat} {o : Obj} (hown : w'.ownsRow B 3 1 (.slice (some ⟨g4, 0, none⟩) (out.length + 1) cap4) (out.length + 1) (ints (zn out) ++ [.int .i64 k]))
    (hg : (ov.ownBlock = some g4 ∧ (w.alloc o).grownBy w' (some g4)) ∨ (g4 = w.heap.size + 1 ∧ (w.alloc o).grownBy w' none)) :
    Rq B ob gb (.slice (some ⟨g4, 0, none⟩) (out.length + 1) cap4) O G (out ++ [k]) w' ∧ (B ≤ w.heap.size → Below B w w') := by
  have ho : ∀ k, k < w.heap.size → ov.ownBlock ≠ some k → w'.heap[k]? = w.heap[k]? := fun k hk hn => grown_old rfl hg hk hn
  refine ⟨⟨h.fo.keep (ho _ h.fo.lt h.n2), h.fg.keep (ho _ h.fg.lt (own_fx h.ro h.fg (by decide))), by rw [List.length_append, zn_snoc, ints_snoc]; exact hown, fun e => ?_, h.lo⟩, fun hB => ?_⟩
  · have e' : g4 = ob := by simpa [Value.ownBlock] using e
    rcases hg with ⟨e2, _⟩ | ⟨e2, _⟩
    · exact h.n2 (e' ▸ e2)
    · have := h.fo.lt; omega
  · exact (grown_fr (Z := fun k => B ≤ k) rfl hg fun g e => (h.ro.lt g e).1).below fun k hk => ⟨by omega, by omega⟩
end
theorem eN_yes {next : List (List Int)} {a k : Nat} (h : edB next a (k : Int) = true) : eN next a k = 1 := by unfold eN; rw [if_pos h]
theorem eN_no {next : List (List Int)} {a k : Nat} (h : edB next a (k : Int) = false) : eN next a k = 0 := by unfold eN; rw [if_neg (by rw [h]; decide)]
set_option maxRecDepth 100000 in
set_option maxHeartbeats 12800000 in
theorem rorder_any {w : World} {next : List (List Int)} {a : Option Addr} {c : Nat} (h : Lists w.heap.size w next (.slice a next.length c)) (hn : next.length ≤ 1048576) :
    Calls Try.prog 9 #[.slice a next.length c] w fun e w' => ∃ out, Kahn next out ∧ KMax next out ∧ Below w.heap.size w w' ∧ ((out.length < next.length ∧ e = .returned (.tuple #[.slice none 0 0, .bool false])) ∨ (out.length = next.length ∧ ∃ ov, e = .returned (.tuple #[ov, .bool true]) ∧ w'.ownsRow w.heap.size 3 1 ov out.length (ints (zn out)))) := by
  obtain ⟨iI, hiI, zI0, zI1, zI2⟩ := info_parts infoI
  obtain ⟨iB, hiB, zB0, zB1, zB2⟩ := info_parts infoBo
  have HL := hide h
  obtain ⟨n, hnn⟩ : ∃ n, next.length = n := ⟨_, rfl⟩
  have HNN := hide hnn
  rw [hnn] at hn HL ⊢
  clear h hnn
  have HED : Hid (∀ (w1 : World), Below w.heap.size w w1 → ∀ i : Nat, i < n → ∀ b : Int, Calls Try.prog 19 #[.slice a n c, .int .i64 i, .int .i64 b] w1 fun e w' => e = .returned (.bool (edB next i b)) ∧ w' = w1) := hide fun w1 hb i hi b => edge_any (HL.out.keep hb.block) hi HNN.out b
  have HN0 : Hid ((n : Int) = (n : Int)) := hide rfl
  go_enter Try.func9, Try.ntmps9
  go_upto_region 3 with (at_make; go_must (refine wpList_make_fix _ rfl _ _ 27 rfl 3 iI _ Try.underlying27 hiI zI0 zI1 rfl _ _ n rfl rfl HN0.out HN0.out (by rw [zI2]; omega) (by unfold maxLen; omega) ?_))
  have HF0 : Hid (Fx w.heap.size 3 (ints (List.replicate n 0)) (w.alloc (.cells (Array.replicate n (.int .i64 0)) 3))) := hide (by unfold Fx; rw [← ints_rep]; exact heap_alloc_new w _)
  have HB0 := hide (below_new w (.cells (Array.replicate n (.int .i64 0)) 3))
  have HP0 : Hid (OvI next 0 0 (List.replicate n 0)) := hide (by rw [← HNN.out]; exact OvI.start)
  generalize w.alloc (.cells (Array.replicate n (.int .i64 0)) 3) = w0 at *
  go_wp2_with fail
  go_loopw [6] (fun x wr => ∃ (i : Nat) (O : List Int), i ≤ n ∧ x = .int .i64 i ∧ Hid (OvI next i 0 O) ∧ Hid (Fx w.heap.size 3 (ints O) wr) ∧ Hid (Below w.heap.size w wr)) (fun x _ => n - (intOf x).toNat)
  case atStart => exact ⟨0, _, by omega, rfl, HP0, HF0, HB0⟩
  case round =>
    clear HP0 HF0 HB0
    obtain ⟨i, O, hi, rfl, HP, HF, HB⟩ := hrel
    by_cases hlt : i < n
    · go_upto_region 7 with fail
      go_wp2_with fail
      go_loopw [7] (fun x ws => ∃ (j : Nat) (O : List Int), j ≤ n ∧ x = .int .i64 j ∧ Hid (OvI next i j O) ∧ Hid (Fx w.heap.size 3 (ints O) ws) ∧ Hid (Below w.heap.size w ws)) (fun x _ => n - (intOf x).toNat)
      case atStart => exact ⟨0, O, by omega, rfl, HP, HF, HB⟩
      case round =>
        clear HP HF HB
        obtain ⟨j, O, hj, rfl, HP, HF, HB⟩ := hrel
        by_cases hjt : j < n
        · have CE := hide (HED.out wr HB.out i hlt (j : Int))
          have hjl : j < next.length := by rw [HNN.out]; exact hjt
          cases he : edB next i (j : Int) with
          | true =>
            rw [he] at CE
            have hbd := HP.out.bound hjl
            have kc := HF.out.get (ints_at (l := O) (i := j) (by rw [HP.out.1]; exact hjl))
            have kf := HF.out.frz j
            have HP2 := hide (HP.out.more hjl (eN_yes he))
            have HF2 : Hid (Fx w.heap.size 3 (ints (O.set j (O.getD j 0 + 1))) (wr.setCell ⟨w.heap.size, j, none⟩ (.int .i64 (O.getD j 0 + 1)))) := hide (by rw [← ints_set]; exact HF.out.set j _)
            have HB2 := hide (HB.out.setCell (p := ⟨w.heap.size, j, none⟩) (Nat.le_refl _) (.int .i64 (O.getD j 0 + 1)))
            generalize O.getD j 0 = t at *
            clear HP HF HB he
            go_wp2_with (go_at_call 19; refine CE.out.mono ?_; rintro e w2 ⟨rfl, hw2⟩; subst w2)
            go_roundw
            case rel => exact ⟨j + 1, _, by omega, by go_num, HP2, HF2, HB2⟩
            case measure => simp [intOf]; omega
          | false =>
            rw [he] at CE
            have HP2 := hide (HP.out.skip (eN_no he))
            clear HP he
            go_wp2_with (go_at_call 19; refine CE.out.mono ?_; rintro e w2 ⟨rfl, hw2⟩; subst w2)
            go_roundw
            case rel => exact ⟨j + 1, O, by omega, by go_num, HP2, HF, HB⟩
            case measure => simp [intOf]; omega
        · have HP2 : Hid (OvI next (i + 1) 0 O) := hide (by have := HP.out; rw [show j = next.length by rw [HNN.out]; omega] at this; exact this.row)
          clear HP
          go_wp2_with fail
          go_roundw
          case rel => exact ⟨i + 1, O, by omega, by go_num, HP2, HF, HB⟩
          case measure => simp [intOf]; omega
    · have HPn : Hid (OvI next next.length 0 O) := hide (by have := HP.out; rw [show i = next.length by rw [HNN.out]; omega] at this; exact this)
      clear HP
      go_upto_region 13 with (at_make; go_must (refine wpList_make_fix _ rfl _ _ 40 rfl 4 iB _ Try.underlying40 hiB zB0 zB1 rfl _ _ n rfl rfl rfl rfl (by rw [zB2]; omega) (by unfold maxLen; omega) ?_))
      have bA := below_new wr (.cells (Array.replicate n (.bool false)) 4)
      have HQ0 : Hid (Rq w.heap.size w.heap.size wr.heap.size (.slice none 0 0) O (List.replicate n false) [] (wr.alloc (.cells (Array.replicate n (.bool false)) 4))) := hide ⟨HF.out.keep (bA.block _ HF.out.lt), by unfold Fx; rw [← bools_rep]; exact heap_alloc_new wr _, ⟨rfl, .inl ⟨rfl, rfl⟩⟩, by simp [Value.ownBlock], Nat.le_refl _, HB.out.size⟩
      have HB0 : Hid (Below w.heap.size w (wr.alloc (.cells (Array.replicate n (.bool false)) 4))) := hide (HB.out.trans (bA.mono HB.out.size))
      have HR0 : Hid (Ri next [] O (List.replicate n false)) := hide (by rw [← HNN.out]; exact Ri.start HPn.out)
      clear bA HF HB HPn
      generalize wr.alloc (.cells (Array.replicate n (.bool false)) 4) = w2 at *
      generalize wr.heap.size = gb at *
      go_wp2_with fail
      go_loopw [8] (fun x ws => ∃ (out : List Nat) (O : List Int) (G : List Bool) (oa : Option Addr) (oc : Nat), x = .slice oa out.length oc ∧ out.length ≤ n ∧ Hid (Ri next out O G) ∧ Hid (Rq w.heap.size w.heap.size gb (.slice oa out.length oc) O G out ws) ∧ Hid (Below w.heap.size w ws)) (fun x _ => n - (match x with | .slice _ k _ => k | _ => 0))
      case atStart => exact ⟨[], O, _, none, 0, rfl, by simp, HR0, HQ0, HB0⟩
      case round =>
        clear HR0 HQ0 HB0
        obtain ⟨out, O, G, oa, oc, rfl, hol, HR, HQ, HB⟩ := hrel
        obtain ⟨K, hK⟩ : ∃ K, out.length = K := ⟨_, rfl⟩
        have HKK := hide hK
        rw [hK] at hol HQ ⊢
        clear hK
        by_cases hKn : K < n
        · go_upto_region 15 with fail
          go_wp2_with fail
          go_loop [10] (fun x => ∃ p : Nat, p ≤ n ∧ x = .int .i64 p ∧ Hid (∀ j, j < p → G.getD j false = true ∨ 0 < O.getD j 0)) (fun x => n - (intOf x).toNat)
          case atStart => exact ⟨0, by omega, rfl, hide (fun j hj => by omega)⟩
          case round =>
            obtain ⟨p, hp, rfl, HS⟩ := hrel
            by_cases hpn : p < n
            · have hpl : p < next.length := by rw [HNN.out]; exact hpn
              have cg := HQ.out.fg.get (bools_at (l := G) (i := p) (by rw [HR.out.lg]; exact hpl))
              have co := HQ.out.fo.get (ints_at (l := O) (i := p) (by rw [HR.out.lo]; exact hpl))
              cases hg : G.getD p false with
              | true =>
                rw [hg] at cg
                have HS2 : Hid (∀ j, j < p + 1 → G.getD j false = true ∨ 0 < O.getD j 0) := hide fun j hj => by
                  by_cases e : j = p
                  · rw [e]; exact .inl hg
                  · exact HS.out j (by omega)
                clear hg
                go_wp2_with fail
                go_round
                case rel => exact ⟨p + 1, by omega, by go_num, HS2⟩
                case measure => simp [intOf]; omega
              | false =>
                rw [hg] at cg
                by_cases ho : 0 < O.getD p 0
                · have HS2 : Hid (∀ j, j < p + 1 → G.getD j false = true ∨ 0 < O.getD j 0) := hide fun j hj => by
                    by_cases e : j = p
                    · rw [e]; exact .inr ho
                    · exact HS.out j (by omega)
                  generalize O.getD p 0 = t at co ho
                  clear hg
                  go_wp2_with fail
                  go_round
                  case rel => exact ⟨p + 1, by omega, by go_num, HS2⟩
                  case measure => simp [intOf]; omega
                · obtain ⟨hk1, hk2⟩ := HR.out.take hpl HS.out hg ho
                  have HK1 := hide hk1
                  have HD0 := hide (DnO.start HR.out hpl hk2)
                  have hp0 : O.getD p 0 ≤ 0 := by omega
                  generalize O.getD p 0 = t at co ho
                  have hpn2 : ((p : Int) == (n : Int)) = false := beq_eq_false_iff_ne.2 (by omega)
                  have HQ2 := hide (HQ.out.gone p)
                  have fg := HQ.out.fg.frz p
                  have HB2 := hide (HB.out.setCell (p := ⟨gb, p, none⟩) HQ.out.lo.2 (.bool true))
                  clear hk1 hk2 hg HS HQ HB hp0
                  go_upto_region 20 with fail
                  clear cg co fg
                  generalize wr.setCell ⟨gb, p, none⟩ (.bool true) = w3 at *
                  have hA := below_new w3 (.cells #[.int .i64 p] 3)
                  have HROW : Hid ((w3.alloc (.cells #[.int .i64 p] 3)).ownsRow w.heap.size 3 1 (.slice oa K oc) K (ints (zn out))) := hide (by
                    have := owns_keep HQ2.out.ro fun g hg => hA.block g (owns_lt HQ2.out.ro hg)
                    rw [HKK.out] at this
                    exact this)
                  have hs3 : w.heap.size ≤ w3.heap.size := HB2.out.size
                  clear hA
                  go_upto_region 21 with (at_builtin; go_must (refine wpList_append_two _ rfl _ _ 27 rfl w.heap.size 3 iI _ 1 8 Try.underlying27 hiI zI0 zI1 zI2 rfl (by decide) _ _ (ints (zn out)) rfl HROW.out ⟨w3.heap.size, 0, none⟩ 1 [.int .i64 p] rfl rfl (cell_one_new _ _ _) (by intro u hu; simp at hu; subst hu; rfl) (by unfold maxLen; omega) (by omega) (by simp; omega) ?_); intro g4 cap4 w4 hown4 hg4; have HM4 := hide (HQ2.out.more (k := p) (g4 := g4) (cap4 := cap4) (w' := w4) (by rw [HKK.out]; exact hown4) (by rcases hg4 with h | ⟨h1, h2⟩; exact .inl h; exact .inr ⟨by simpa using h1, h2⟩)); clear hown4 hg4)
                  have HQ4 := hide HM4.out.1
                  have HB4 := hide (HB2.out.trans (HM4.out.2 hs3))
                  rw [HKK.out] at HQ4
                  clear HM4 HROW HQ2 HB2 hs3
                  go_upto_region 22 with fail
                  go_wp2_with fail
                  go_loopw [11] (fun x ws => ∃ (j : Nat) (O1 : List Int), j ≤ n ∧ x = .int .i64 j ∧ Hid (DnO next out p j O1) ∧ Hid (Rq w.heap.size w.heap.size gb (.slice (some ⟨g4, 0, none⟩) (K + 1) cap4) O1 (G.set p true) (out ++ [p]) ws) ∧ Hid (Below w.heap.size w ws)) (fun x _ => n - (intOf x).toNat)
                  case atStart => exact ⟨0, O, by omega, rfl, HD0, HQ4, HB4⟩
                  case round =>
                    clear HD0 HQ4 HB4
                    obtain ⟨j, O1, hj, rfl, HD, HQ, HB⟩ := hrel
                    by_cases hjt : j < n
                    · have CE := hide (HED.out wr HB.out p hpn (j : Int))
                      have hjl : j < next.length := by rw [HNN.out]; exact hjt
                      cases he : edB next p (j : Int) with
                      | true =>
                        rw [he] at CE
                        have hbd := HD.out.bound hjl
                        have hnl := HNN.out
                        have kc := HQ.out.fo.get (ints_at (l := O1) (i := j) (by rw [HD.out.1]; exact hjl))
                        have kf := HQ.out.fo.frz j
                        have HD2 := hide (HD.out.less hjl (eN_yes he))
                        have HQ2 := hide (HQ.out.over j (O1.getD j 0 - 1))
                        have HB2 := hide (HB.out.setCell (p := ⟨w.heap.size, j, none⟩) (Nat.le_refl _) (.int .i64 (O1.getD j 0 - 1)))
                        have hb2 : 0 ≤ O1.getD j 0 ∧ O1.getD j 0 ≤ 4194304 := by omega
                        generalize O1.getD j 0 = t at *
                        clear HD HQ HB he hbd hnl
                        go_wp2_with (go_at_call 19; refine CE.out.mono ?_; rintro e w5 ⟨rfl, hw5⟩; subst w5)
                        go_roundw
                        case rel => exact ⟨j + 1, _, by omega, by go_num, HD2, HQ2, HB2⟩
                        case measure => simp [intOf]; omega
                      | false =>
                        rw [he] at CE
                        have HD2 := hide (HD.out.skip (eN_no he))
                        clear HD he
                        go_wp2_with (go_at_call 19; refine CE.out.mono ?_; rintro e w5 ⟨rfl, hw5⟩; subst w5)
                        go_roundw
                        case rel => exact ⟨j + 1, O1, by omega, by go_num, HD2, HQ, HB⟩
                        case measure => simp [intOf]; omega
                    · have HR2 : Hid (Ri next (out ++ [p]) O1 (G.set p true)) := hide (by have := HD.out; rw [show j = next.length by rw [HNN.out]; omega] at this; exact this.done HR.out HK1.out hpl)
                      clear HD
                      go_wp2_with fail
                      go_roundw
                      case rel => exact ⟨out ++ [p], O1, _, some ⟨g4, 0, none⟩, cap4, by rw [List.length_append, HKK.out]; rfl, by rw [List.length_append, HKK.out]; exact hKn, HR2, hide (by rw [List.length_append, HKK.out]; exact HQ.out), HB⟩
                      case measure => have := HKK.out; simp; omega
            · have HMx : Hid (KMax next out) := hide (HR.out.none fun j hj => HS.out j (by rw [HNN.out] at hj; omega))
              have hpe : p = n := by omega
              subst hpe
              clear HS
              go_wp2_with fail
              go_ret2
              exact ⟨out, HR.out.kh, HMx.out, HB.out, .inl ⟨by rw [HKK.out]; exact hKn, rfl⟩⟩
        · have HMx : Hid (KMax next out) := hide (full_max HR.out.kh (by rw [HKK.out, HNN.out]; omega))
          go_wp2_with fail
          go_ret2
          exact ⟨out, HR.out.kh, HMx.out, HB.out, .inr ⟨by rw [HKK.out]; omega, _, rfl, by rw [HKK.out]; have := HQ.out.ro; rw [HKK.out] at this; exact this⟩⟩
end Go.Proofs.Ytjaffhajehcnpaa
