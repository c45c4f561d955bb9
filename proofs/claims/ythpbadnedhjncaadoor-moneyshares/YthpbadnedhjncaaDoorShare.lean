/- The document's Share: what it answers, whatever it is given. -/
import Derived.Test.YthpbadnedhjncaaDoorSharePlain
namespace Go.Proofs.YthpbadnedhjncaaDoor
open Go.RowKit

theorem infoI64' : (Tryd.prog.info? 2).map (fun i => (i.zero, i.size, i.bytes)) = some (some (.int .i64 0), 1, 8) := by kernel_rfl

/-- What Share's answer is. -/
def ShareEnds (w : World) (t : Int) (zs : List Int) (e : Ending) (w' : World) : Prop :=
  ∃ x n cx, e = .returned (.tuple #[.slice x n cx, .int .i64 (shareErr t zs)]) ∧ n = (shareM t zs).length ∧ (shareErr t zs ≠ 0 → x = none ∧ cx = 0) ∧ w'.ownsRow w.heap.size 22 1 (.slice x n cx) n ((shareM t zs).map (Value.int .i64)) ∧ Below w.heap.size w w'

theorem share_bad {w : World} {t : Int} {zs : List Int} {c : Int} (h : shareErr t zs = c) (hc : c ≠ 0) {w' : World} (hb : Below w.heap.size w w') : ShareEnds w t zs (.returned (.tuple #[.slice none 0 0, .int .i64 c])) w' := by
  have hm : shareM t zs = [] := by unfold shareM; rw [if_neg (by rw [h]; exact hc)]
  refine ⟨none, 0, 0, by rw [h], by rw [hm]; rfl, fun _ => ⟨rfl, rfl⟩, ?_, hb⟩
  rw [hm]
  exact World.ownsRow_nil _ _ _ _

theorem share_ok {w : World} {t : Int} {zs : List Int} (h : shareErr t zs = 0) {x : Option Addr} {n cx : Nat} {os : List Int} (ho : shareOut t zs = os) {w' : World} (hl : n = os.length) (hr : w'.ownsRow w.heap.size 22 1 (.slice x n cx) n (os.map (Value.int .i64))) (hb : Below w.heap.size w w') : ShareEnds w t zs (.returned (.tuple #[.slice x n cx, .int .i64 0])) w' := by
  have hm : shareM t zs = os := by unfold shareM; rw [if_pos h, ho]
  exact ⟨x, n, cx, by rw [h], by rw [hm]; exact hl, fun hh => absurd h hh, by rw [hm]; exact hr, hb⟩

theorem err_t {t : Int} {zs : List Int} (h : t < 0 ∨ may t = false) : shareErr t zs = 22 := by unfold shareErr; rw [if_pos h]
theorem err_n {t : Int} {zs : List Int} (h0 : 0 ≤ t) (h : may t = true) (hn : zs.length = 0 ∨ 4096 < zs.length) : shareErr t zs = 3 := by unfold shareErr; rw [if_neg (by rw [h]; simp; omega), if_pos hn]
theorem err_w {t : Int} {zs : List Int} (h0 : 0 ≤ t) (h : may t = true) (hn : 1 ≤ zs.length ∧ zs.length ≤ 4096) {c : Int} (hc : c ∈ zs) (hf : ¬ fitW c) : shareErr t zs = 4 := by unfold shareErr; rw [if_neg (by rw [h]; simp; omega), if_neg (by omega), if_pos (fun hh => hf (hh c hc))]
theorem err_s {t : Int} {zs : List Int} (h0 : 0 ≤ t) (h : may t = true) (hn : 1 ≤ zs.length ∧ zs.length ≤ 4096) (hf : ∀ z ∈ zs, fitW z) (hs : zs.sum = 0) : shareErr t zs = 1 := by unfold shareErr; rw [if_neg (by rw [h]; simp; omega), if_neg (by omega), if_neg (by simpa using hf), if_pos hs]
theorem err_0 {t : Int} {zs : List Int} (h0 : 0 ≤ t) (h : may t = true) (hn : 1 ≤ zs.length ∧ zs.length ≤ 4096) (hf : ∀ z ∈ zs, fitW z) (hs : zs.sum ≠ 0) : shareErr t zs = 0 := by unfold shareErr; rw [if_neg (by rw [h]; simp; omega), if_neg (by omega), if_neg (by simpa using hf), if_neg hs]

set_option maxHeartbeats 4000000 in
set_option maxRecDepth 100000 in
theorem refShare_any (t : Int) (a : Option Addr) (len cap : Nat) (zs : List Int) (w : World) (hl : zs.length = len) (hlen : len ≤ 140737488355328) (h : Nums .i64 w a zs) :
    Calls Tryd.prog 28 #[.int .i64 t, .slice a len cap] w fun e w' => ShareEnds w t zs e w' := by
  have HL := hide hl
  have HR := hide h
  clear hl h
  by_cases ht0 : t < 0
  · have HB := hide (err_t (zs := zs) (.inl ht0))
    go_enter Tryd.func28, Tryd.ntmps28
    go_wp2_with fail
    go_ret2
    exact share_bad HB.out (by decide) (Below.refl _ _)
  have CM := hide (fun w => may_any t w)
  cases hm : may t with
  | false =>
    rw [hm] at CM
    have HB := hide (err_t (zs := zs) (.inr hm))
    clear hm
    go_enter Tryd.func28, Tryd.ntmps28
    go_wp2_with (go_at_call 36; refine (CM.out _).mono ?_; rintro e w' ⟨rfl, rfl⟩)
    go_ret2
    exact share_bad HB.out (by decide) (Below.refl _ _)
  | true =>
    rw [hm] at CM
    have HM := hide hm
    have hb := may_yes hm
    clear hm
    obtain ⟨tn, rfl⟩ : ∃ tn : Nat, t = tn := ⟨t.toNat, by omega⟩
    clear ht0
    rcases (show len = 0 ∨ 4096 < len ∨ (1 ≤ len ∧ len ≤ 4096) by omega) with h0 | h1 | ⟨h1, h2⟩
    · subst h0
      have HB := hide (err_n (t := (tn : Int)) (zs := zs) (by omega) HM.out (.inl HL.out))
      go_enter Tryd.func28, Tryd.ntmps28
      go_wp2_with (go_at_call 36; refine (CM.out _).mono ?_; rintro e w' ⟨rfl, rfl⟩)
      go_ret2
      exact share_bad HB.out (by decide) (Below.refl _ _)
    · have HB := hide (err_n (t := (tn : Int)) (zs := zs) (by omega) HM.out (.inr (by rw [HL.out]; exact h1)))
      have he : ((len : Int) == 0) = false := by simp; omega
      go_enter Tryd.func28, Tryd.ntmps28
      go_wp2_with (go_at_call 36; refine (CM.out _).mono ?_; rintro e w' ⟨rfl, rfl⟩)
      go_ret2
      exact share_bad HB.out (by decide) (Below.refl _ _)
    · have he : ((len : Int) == 0) = false := by simp; omega
      have HN : Hid (1 ≤ zs.length ∧ zs.length ≤ 4096) := by unfold Hid; rw [HL.out]; exact ⟨h1, h2⟩
      go_enter Tryd.func28, Tryd.ntmps28
      go_wp2_with (go_at_call 36; refine (CM.out _).mono ?_; rintro e w' ⟨rfl, hww⟩; subst w')
      go_loop [6, 7] (fun s i => ∃ (k : Nat) (sv : Int), k ≤ len ∧ i = .int .i64 k ∧ s = .int .i64 sv ∧ 0 ≤ sv ∧ sv ≤ 1000000000000000 * (k : Int) ∧ Hid (sv = (zs.take k).sum) ∧ Hid (∀ z ∈ zs.take k, fitW z)) (fun _ i => len - (intOf i).toNat)
      case atStart => exact ⟨0, 0, by omega, rfl, rfl, by omega, by omega, by simp [Hid], by simp [Hid]⟩
      case round =>
        obtain ⟨k, sv, hk, rfl, rfl, hs0, hs1, HS, HF⟩ := hrel
        by_cases hlt : k < len
        · obtain ⟨b, off, c, ha, hcx, HT, HC, HI⟩ := Nums.get HR.out HL.out (Below.refl w.heap.size w) hlt
          subst ha
          by_cases hc0 : c < 0
          · have HB := hide (err_w (t := (tn : Int)) (by omega) HM.out HN.out HI.out (fun hh => by have := hh.1; omega))
            go_wp2_with fail
            go_ret2
            exact share_bad HB.out (by decide) (Below.refl _ _)
          · have hc0b : decide (c < 0) = false := decide_eq_false hc0
            by_cases hc1 : 1000000000000000 < c
            · have HB := hide (err_w (t := (tn : Int)) (by omega) HM.out HN.out HI.out (fun hh => by have := hh.2; omega))
              go_wp2_with fail
              go_ret2
              exact share_bad HB.out (by decide) (Below.refl _ _)
            · have hc1b : decide (1000000000000000 < c) = false := decide_eq_false hc1
              have HNX := hide (sum_take_snoc HT.out)
              have HA : Hid (∀ z ∈ zs.take (k + 1), fitW z) := by
                intro z hz
                rw [HT.out] at hz
                rcases List.mem_append.1 hz with h | h
                · exact HF.out z h
                · simp at h; subst h; exact ⟨by omega, by omega⟩
              go_wp2_with fail
              go_round
              case rel => exact ⟨k + 1, sv + c, by omega, by go_num, rfl, by omega, by omega, by have h1 := HS.out; unfold Hid; rw [HNX.out]; omega, HA⟩
              case measure => simp [intOf]; omega
        · have hke : k = len := by omega
          have HSS : Hid (sv = zs.sum) := by have := HS.out; rwa [List.take_of_length_le (by rw [HL.out]; omega)] at this
          have HFA : Hid (∀ z ∈ zs, fitW z) := by have := HF.out; rwa [List.take_of_length_le (by rw [HL.out]; omega)] at this
          clear HS HF
          obtain ⟨sn, rfl⟩ : ∃ sn : Nat, sv = sn := ⟨sv.toNat, by omega⟩
          by_cases hz : sn = 0
          · have hzb : ((sn : Int) == 0) = true := by simp [hz]
            have HB := hide (err_s (t := (tn : Int)) (by omega) HM.out HN.out HFA.out (by have := HSS.out; omega))
            clear hz
            go_wp2_with fail
            go_ret2
            exact share_bad HB.out (by decide) (Below.refl _ _)
          · have hzb : ((sn : Int) == 0) = false := by simp [hz]
            have HE := hide (err_0 (t := (tn : Int)) (by omega) HM.out HN.out HFA.out (by have := HSS.out; omega))
            subst hke
            have hsn : sn ≤ 4096000000000000000 := by omega
            have HP : Hid (∀ (c : Int) (W : World), c ∈ zs → Calls Tryd.prog 45 #[.int .i64 tn, .int .i64 c, .int .i64 sn] W fun e w' => e = .returned (.tuple #[.int .i64 ((tn : Int) * c / sn), .int .i64 ((tn : Int) * c % sn)]) ∧ w' = W) := by
              intro c W hc
              have hf := HFA.out c hc
              have hcs := mem_le_sum zs HFA.out c hc
              rw [← HSS.out] at hcs
              obtain ⟨cn, rfl⟩ : ∃ cn : Nat, c = cn := ⟨c.toNat, by have := hf.1; omega⟩
              exact part_any tn cn sn W (by omega) (by omega) (by omega) hsn
            have HQ : Hid (∀ c ∈ zs, 0 ≤ (tn : Int) * c / sn ∧ (tn : Int) * c / sn ≤ tn ∧ 0 ≤ (tn : Int) * c % sn ∧ (tn : Int) * c % sn < sn) := by
              intro c hc
              have hcs := mem_le_sum zs HFA.out c hc
              rw [← HSS.out] at hcs
              exact quot_bounds (by omega) (HFA.out c hc).1 hcs (by omega)
            have HO : Hid (shareOut tn zs = give ((tn : Int) - (quots tn sn zs).sum).toNat (quots tn sn zs) (rests tn sn zs)) := by unfold Hid shareOut; rw [← HSS.out]
            obtain ⟨iA, hiA, hzA0, hzA1, hzA2⟩ := info_parts infoMoney
            obtain ⟨iB, hiB, hzB0, hzB1, hzB2⟩ := info_parts infoI64'
            go_wp2_with fail
            go_loopw [8, 9, 10, 11] (fun o r l i wr => ∃ (k2 : Nat) (lv : Int), k2 ≤ k ∧ i = .int .i64 k2 ∧ l = .int .i64 lv ∧ -(1000000000000000 * (k2 : Int)) ≤ lv ∧ lv ≤ 1000000000000000 ∧ Hid (lv = (tn : Int) - (quots tn sn (zs.take k2)).sum) ∧ wr.ownsRow w.heap.size 22 1 o k2 ((quots tn sn (zs.take k2)).map (Value.int .i64)) ∧ wr.ownsRow w.heap.size 2 1 r k2 ((rests tn sn (zs.take k2)).map (Value.int .i64)) ∧ Below w.heap.size w wr) (fun _ _ _ i _ => k - (intOf i).toNat)
            case atStart => exact ⟨0, tn, by omega, rfl, rfl, by omega, by omega, by simp [Hid, quots], World.ownsRow_nil _ _ _ _, World.ownsRow_nil _ _ _ _, Below.refl _ _⟩
            case round =>
              obtain ⟨k2, lv, hk2, rfl, rfl, hlv0, hlv1, HLV, hown, hownR, hbel⟩ := hrel
              by_cases hlt2 : k2 < k
              · obtain ⟨b, off, c, ha, hcx, HT, HC, HI⟩ := Nums.get HR.out HL.out hbel hlt2
                subst ha
                have HPC := hide (fun W => HP.out c W HI.out)
                have hq4 := HQ.out c HI.out
                have HT1 := hide (quot_take (t := tn) (s := sn) HT.out rfl)
                have HT2 := hide (rest_take (t := tn) (s := sn) HT.out rfl)
                generalize (tn : Int) * c / sn = q at *
                generalize (tn : Int) * c % sn = r at *
                obtain ⟨hq0, hq1, hr0, hr1⟩ := hq4
                go_wp2_with (first
                  | (go_at_call 45; refine (HPC.out _).mono ?_; rintro e w' ⟨rfl, hww⟩; subst w')
                  | (at_builtin; go_must (refine wpList_append_own _ rfl _ _ 41 rfl w.heap.size 22 iA (.int .i64 0) 1 8 Tryd.underlying41 hiA hzA0 hzA1 hzA2 rfl (by decide) _ _ _ rfl (hown.alloc _) ⟨wr.heap.size, 0, none⟩ 1 1 [.int .i64 q] rfl rfl (cell_one_new _ _ _) (one_cell _ _) (by unfold maxLen; omega) (by omega) (by have := hbel.size; simp; omega) ?_))
                  | go_in)
                intro v' w1 hown' hgrow _
                have hbel1 : Below w.heap.size w w1 := (hbel.alloc hbel.size _).grown hgrow (by have := hbel.size; simp; omega) (fun k hk => (hown.lt k hk).1)
                have hownR1 := (hownR.alloc _).kept hgrow (own_apart hown hownR (by decide))
                clear hgrow
                go_wp2_with (first
                  | (at_builtin; go_must (refine wpList_append_own _ rfl _ _ 51 rfl w.heap.size 2 iB (.int .i64 0) 1 8 Tryd.underlying51 hiB hzB0 hzB1 hzB2 rfl (by decide) _ _ _ rfl (hownR1.alloc _) ⟨w1.heap.size, 0, none⟩ 1 1 [.int .i64 r] rfl rfl (cell_one_new _ _ _) (one_cell _ _) (by unfold maxLen; omega) (by omega) (by have := hbel1.size; simp; omega) ?_))
                  | go_in)
                intro v2 w2 hownR2 hgrow2 _
                have hbel2 : Below w.heap.size w w2 := (hbel1.alloc hbel1.size _).grown hgrow2 (by have := hbel1.size; simp; omega) (fun k hk => (hownR1.lt k hk).1)
                have hown2 := (hown'.alloc _).kept hgrow2 (own_apart hownR1 hown' (by decide))
                clear hgrow2
                go_wp2_with fail
                go_roundw
                case rel => exact ⟨k2 + 1, lv - q, by omega, by go_num, rfl, by omega, by omega, by have h1 := HLV.out; unfold Hid; rw [HT1.out, List.sum_append]; simp; omega, by rw [HT1.out]; simpa using hown2, by rw [HT2.out]; simpa using hownR2, hbel2⟩
                case measure => simp [intOf]; omega
              · have : k2 = k := by omega
                subst this
                have HTK := hide (List.take_of_length_le (by rw [HL.out]; omega) : zs.take k2 = zs)
                rw [HTK.out] at hown hownR HLV
                clear HTK
                obtain ⟨g, cg, rfl, hg1, hg2, hg3⟩ := own_some hown (by omega)
                obtain ⟨j, cj, rfl, hj1, hj2, hj3⟩ := own_some hownR (by omega)
                have hgj : g ≠ j := by
                  have := own_apart hown hownR (by decide)
                  simp [Value.ownBlock] at this
                  omega
                have HGV : Hid (give lv.toNat (quots tn sn zs) (rests tn sn zs) = shareOut tn zs) := by unfold Hid; rw [HO.out, HLV.out]
                have HBD : Hid (∀ z ∈ quots tn sn zs, 0 ≤ z ∧ z ≤ 2000000000000000 - lv) := by
                  intro z hz
                  have := quots_fit (t := tn) (s := sn) (by omega) (by omega) (fun z hz => ⟨HFA.out z hz, by rw [HSS.out]; exact mem_le_sum zs HFA.out z hz⟩) z hz
                  omega
                clear HLV HO HP HQ
                generalize quots tn sn zs = qs at *
                generalize rests tn sn zs = rss at *
                have HX := hide hbel
                go_wp2_with fail
                go_loopw [10] (fun l wl => ∃ (lw : Int) (os rs : List Int), l = .int .i64 lw ∧ -4096000000000000000 ≤ lw ∧ lw ≤ 1000000000000000 ∧ Hid (give lw.toNat os rs = shareOut tn zs) ∧ Hid (∀ z ∈ os, 0 ≤ z ∧ z ≤ 2000000000000000 - lw) ∧ wl.ownsRow w.heap.size 22 1 (.slice (some ⟨g, 0, none⟩) k2 cg) k2 (os.map (Value.int .i64)) ∧ wl.ownsRow w.heap.size 2 1 (.slice (some ⟨j, 0, none⟩) k2 cj) k2 (rs.map (Value.int .i64)) ∧ Below w.heap.size w wl) (fun l _ => (intOf l).toNat)
                case atStart => exact ⟨lv, qs, rss, rfl, by omega, by omega, HGV, HBD, hown, hownR, hbel⟩
                case round =>
                  obtain ⟨lw, os, rs, rfl, hlw0, hlw1, HG, HBO, ho, hr, hbl⟩ := hrel
                  have HLO : Hid (os.length = k2) := by have := ho.1; simpa [Hid] using this
                  have HLR : Hid (rs.length = k2) := by have := hr.1; simpa [Hid] using this
                  by_cases hpos : 0 < lw
                  · go_wp2_with fail
                    go_loopw [14, 15] (fun b i wi => ∃ (k3 b3 : Nat), 1 ≤ k3 ∧ k3 ≤ k2 ∧ b3 < k3 ∧ i = .int .i64 k3 ∧ b = .int .i64 b3 ∧ Hid (b3 = bestAt rs k3) ∧ wi.ownsRow w.heap.size 22 1 (.slice (some ⟨g, 0, none⟩) k2 cg) k2 (os.map (Value.int .i64)) ∧ wi.ownsRow w.heap.size 2 1 (.slice (some ⟨j, 0, none⟩) k2 cj) k2 (rs.map (Value.int .i64)) ∧ Below w.heap.size w wi) (fun _ i _ => k2 - (intOf i).toNat)
                    case atStart => exact ⟨1, 0, by omega, by omega, by omega, rfl, rfl, (bestAt_one rs).symm, ho, hr, hbl⟩
                    case round =>
                      obtain ⟨k3, b3, hk31, hk32, hb3, rfl, rfl, HB3, ho3, hr3, hbl3⟩ := hrel
                      by_cases hlt3 : k3 < k2
                      · obtain ⟨c, hcc, HC3, _⟩ := own_get hr3 hlt3
                        obtain ⟨d, hdc, HD3, _⟩ := own_get hr3 (show b3 < k2 by omega)
                        have HDB : Hid (d = rs.getD (bestAt rs k3) 0) := by rw [← HB3.out]; exact HD3.out
                        by_cases hcd : d < c
                        · have HN3 := hide (bestAt_yes HC3.out HDB.out hcd)
                          go_wp2_with fail
                          go_region
                          all_goals (try go_wp2_with fail)
                          all_goals
                            go_roundw
                            case rel => exact ⟨k3 + 1, k3, by omega, by omega, by omega, by go_num, rfl, HN3.out.symm, by first | exact ho3.drew | exact ho3.drew.drew | exact ho3, by first | exact hr3.drew | exact hr3.drew.drew | exact hr3, by first | exact hbl3.drew | exact hbl3.drew.drew | exact hbl3⟩
                            case measure => simp [intOf]; omega
                        · have hcdb : decide (d < c) = false := decide_eq_false hcd
                          have HN3 : Hid (b3 = bestAt rs (k3 + 1)) := by unfold Hid; rw [bestAt_no HC3.out HDB.out hcd]; exact HB3.out
                          go_wp2_with fail
                          go_region
                          all_goals (try go_wp2_with fail)
                          all_goals
                            go_roundw
                            case rel => exact ⟨k3 + 1, b3, by omega, by omega, by omega, by go_num, rfl, HN3, by first | exact ho3.drew | exact ho3.drew.drew | exact ho3, by first | exact hr3.drew | exact hr3.drew.drew | exact hr3, by first | exact hbl3.drew | exact hbl3.drew.drew | exact hbl3⟩
                            case measure => simp [intOf]; omega
                      · have : k3 = k2 := by omega
                        subst this
                        obtain ⟨c, hcc, HCO, HCI⟩ := own_get ho3 (show b3 < k3 by omega)
                        have hcb := HBO.out c HCI.out
                        have hf1 := ho3.frozenAt b3
                        obtain ⟨ho4, hgr4⟩ := ho3.stored b3 (.int .i64 (c + 1))
                        have hr4 := hr3.kept hgr4 (.inr (by simp [Value.ownBlock]; omega))
                        obtain ⟨d, hdc, _, _⟩ := own_get hr4 (show b3 < k3 by omega)
                        have hf2 := hr4.frozenAt b3
                        obtain ⟨hr5, hgr5⟩ := hr4.stored b3 (.int .i64 (-1))
                        have ho5 := ho4.kept hgr5 (.inr (by simp [Value.ownBlock]; omega))
                        have hbl5 : Below w.heap.size w ((wr.setCell ⟨g, b3, none⟩ (.int .i64 (c + 1))).setCell ⟨j, b3, none⟩ (.int .i64 (-1))) := (hbl3.setCell (by simp; omega) _).setCell (by simp; omega) _
                        have HGN : Hid (give (lw - 1).toNat (os.set b3 (c + 1)) (rs.set b3 (-1)) = shareOut tn zs) := give_step (n := (lw - 1).toNat) (by rw [show (lw - 1).toNat + 1 = lw.toNat by omega]; exact HG.out) (by rw [HLR.out]; exact HB3.out) HCO.out
                        have HBN : Hid (∀ z ∈ os.set b3 (c + 1), 0 ≤ z ∧ z ≤ 2000000000000000 - (lw - 1)) := mem_set_bound HBO.out (by omega) (by omega)
                        rw [← List.map_set] at ho5 hr5
                        have HO5 := hide ho5
                        have HR5 := hide hr5
                        have HBL5 := hide hbl5
                        clear ho5 hr5 hbl5 ho4 hr4 hgr4 hgr5
                        go_wp2_with fail
                        go_roundw
                        case rel => exact ⟨lw - 1, os.set b3 (c + 1), rs.set b3 (-1), rfl, by omega, by omega, HGN, HBN, HO5.out, HR5.out, HBL5.out⟩
                        case measure => simp [intOf]; omega
                  · have HZ : Hid (shareOut tn zs = os) := by have := HG.out; rw [show lw.toNat = 0 by omega] at this; exact this.symm
                    go_wp2_with fail
                    go_ret2
                    exact share_ok HE.out HZ.out HLO.out.symm ho hbl

end Go.Proofs.YthpbadnedhjncaaDoor
