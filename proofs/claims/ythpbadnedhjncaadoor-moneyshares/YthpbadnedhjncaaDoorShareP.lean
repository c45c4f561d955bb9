/- The program's Share: what it answers, given what byRest answers. -/
import Derived.Test.YthpbadnedhjncaaDoorWhole
import Derived.Test.YthpbadnedhjncaaDoorOwn2
namespace Go.Proofs.YthpbadnedhjncaaDoor
open Go.RowKit

/-- One more at each of the places. -/
def bump : List Nat → List Int → List Int
  | [], os => os
  | p :: l, os => bump l (os.set p (os.getD p 0 + 1))

theorem bump_snoc : ∀ (l : List Nat) (p : Nat) (os : List Int), bump (l ++ [p]) os = (bump l os).set p ((bump l os).getD p 0 + 1) := by
  intro l
  induction l with
  | nil => intro p os; rfl
  | cons a l ih => intro p os; exact ih p _

theorem bump_len : ∀ (l : List Nat) (os : List Int), (bump l os).length = os.length := by
  intro l
  induction l with
  | nil => intro os; rfl
  | cons a l ih => intro os; rw [bump, ih, List.length_set]

theorem sums_back (t s : Int) : ∀ zs : List Int, (quots t s zs).sum * s + (rests t s zs).sum = t * zs.sum := by
  intro zs
  induction zs with
  | nil => simp [quots, rests]
  | cons a l ih =>
    have e := Int.mul_ediv_add_emod (t * a) s
    rw [Int.mul_comm] at e
    simp only [quots, rests, List.map_cons, List.sum_cons] at *
    rw [Int.add_mul, Int.mul_add]
    omega

theorem rests_sum (t s : Int) (hs : 1 ≤ s) : ∀ zs : List Int, 0 ≤ (rests t s zs).sum ∧ (rests t s zs).sum ≤ (s - 1) * zs.length := by
  intro zs
  induction zs with
  | nil => simp [rests]
  | cons a l ih =>
    have e1 := Int.emod_nonneg (t * a) (show s ≠ 0 by omega)
    have e2 := Int.emod_lt_of_pos (t * a) (show 0 < s by omega)
    simp only [rests, List.map_cons, List.sum_cons, List.length_cons] at *
    have e3 : (s - 1) * ((l.length + 1 : Nat) : Int) = (s - 1) * (l.length : Int) + (s - 1) := by
      rw [Int.natCast_add, Int.mul_add]; simp
    omega

/-- What is left is no more than there are weights. -/
theorem left_bounds (t : Int) (zs : List Int) (hs : 1 ≤ zs.sum) : 0 ≤ t - (quots t zs.sum zs).sum ∧ t - (quots t zs.sum zs).sum ≤ zs.length := by
  have e1 := sums_back t zs.sum zs
  have e2 := rests_sum t zs.sum hs zs
  generalize (quots t zs.sum zs).sum = Q at *
  generalize (rests t zs.sum zs).sum = R at *
  generalize zs.sum = s at *
  have e3 : (t - Q) * s = R := by rw [Int.sub_mul]; omega
  have e4 : R ≤ s * zs.length := by
    have : (s - 1) * (zs.length : Int) = s * zs.length - zs.length := by rw [Int.sub_mul, Int.one_mul]
    omega
  refine ⟨?_, ?_⟩
  · have : 0 ≤ (t - Q) * s := by omega
    exact Int.le_of_mul_le_mul_right (by simpa using this) (show 0 < s by omega)
  · have : (t - Q) * s ≤ zs.length * s := by rw [Int.mul_comm (zs.length : Int)]; omega
    exact Int.le_of_mul_le_mul_right this (show 0 < s by omega)

/-- What byRest answers: places, all below len, of which Q holds. -/
def RestEnds (Q : List Nat → Prop) (len : Nat) (w : World) (e : Ending) (w' : World) : Prop :=
  ∃ (blk : Nat) (ds : List Nat), e = .returned (.slice (some ⟨blk, 0, none⟩) len len) ∧ Q ds ∧ ds.length = len ∧ (∀ x ∈ ds, x < len) ∧ (∀ i, i < len → w'.cell? ⟨blk, i, none⟩ = some (.int .i64 (ds.getD i 0 : Nat))) ∧ w.heap.size ≤ blk ∧ Below w.heap.size w w'

set_option maxHeartbeats 4000000 in
set_option maxRecDepth 100000 in
theorem share_of (t : Int) (a : Option Addr) (len cap : Nat) (zs : List Int) (w : World) (hl : zs.length = len) (h : Nums .i64 w a zs) (Q : List Nat → Prop)
    (CB : shareErr t zs = 0 → ∀ q c W, (∀ i, i < len → W.cell? ⟨q, i, none⟩ = some (.int .u64 ((rests t zs.sum zs).getD i 0))) → Calls Tryd.prog 44 #[.slice (some ⟨q, 0, none⟩) len c] W fun e w' => RestEnds Q len W e w')
    (HQ : shareErr t zs = 0 → ∀ ds, Q ds → ds.length = len → bump (ds.take (t - (quots t zs.sum zs).sum).toNat) (quots t zs.sum zs) = shareOut t zs) :
    Calls Tryd.prog 27 #[.int .i64 t, .slice a len cap] w fun e w' => ShareEnds w t zs e w' := by
  have HL := hide hl
  have HR := hide h
  have HCB := hide CB
  have HHQ := hide HQ
  clear hl h CB HQ
  by_cases ht0 : t < 0
  · have HB := hide (err_t (zs := zs) (.inl ht0))
    go_enter Tryd.func27, Tryd.ntmps27
    go_wp2_with fail
    go_ret2
    exact share_bad HB.out (by decide) (Below.refl _ _)
  have ht0b : decide (t < 0) = false := decide_eq_false ht0
  have CM := hide (fun w => check_any t w)
  cases hm : may t with
  | false =>
    rw [checkM_false hm] at CM
    have HB := hide (err_t (zs := zs) (.inr hm))
    clear hm
    go_enter Tryd.func27, Tryd.ntmps27
    go_wp2_with (go_at_call 17; refine (CM.out _).mono ?_; rintro e w' ⟨rfl, hww⟩; subst w')
    go_ret2
    exact share_bad HB.out (by decide) (Below.refl _ _)
  | true =>
    rw [checkM_true hm] at CM
    have HM := hide hm
    have hb := may_yes hm
    clear hm
    rcases (show len = 0 ∨ 4096 < len ∨ (1 ≤ len ∧ len ≤ 4096) by omega) with h0 | h1 | ⟨h1, h2⟩
    · subst h0
      have HB := hide (err_n (t := t) (zs := zs) (by omega) HM.out (.inl HL.out))
      go_enter Tryd.func27, Tryd.ntmps27
      go_wp2_with (go_at_call 17; refine (CM.out _).mono ?_; rintro e w' ⟨rfl, hww⟩; subst w')
      go_ret2
      exact share_bad HB.out (by decide) (Below.refl _ _)
    · have HB := hide (err_n (t := t) (zs := zs) (by omega) HM.out (.inr (by rw [HL.out]; exact h1)))
      have he : ((len : Int) == 0) = false := by simp; omega
      go_enter Tryd.func27, Tryd.ntmps27
      go_wp2_with (go_at_call 17; refine (CM.out _).mono ?_; rintro e w' ⟨rfl, hww⟩; subst w')
      go_ret2
      exact share_bad HB.out (by decide) (Below.refl _ _)
    · have he : ((len : Int) == 0) = false := by simp; omega
      have HN : Hid (1 ≤ zs.length ∧ zs.length ≤ 4096) := by unfold Hid; rw [HL.out]; exact ⟨h1, h2⟩
      go_enter Tryd.func27, Tryd.ntmps27
      go_wp2_with (go_at_call 17; refine (CM.out _).mono ?_; rintro e w' ⟨rfl, hww⟩; subst w')
      go_loop [6, 8, 33] (fun x _ i => ∃ (k : Nat) (sv : Int), k ≤ len ∧ i = .int .i64 k ∧ x = .int .u64 sv ∧ 0 ≤ sv ∧ sv ≤ 1000000000000000 * (k : Int) ∧ Hid (sv = (zs.take k).sum) ∧ Hid (∀ z ∈ zs.take k, fitW z)) (fun _ _ i => len - (intOf i).toNat)
      case atStart => exact ⟨0, 0, by omega, rfl, rfl, by omega, by omega, by simp [Hid], by simp [Hid]⟩
      case round =>
        obtain ⟨k, sv, hk, rfl, rfl, hs0, hs1, HS, HF⟩ := hrel
        by_cases hlt : k < len
        · obtain ⟨b, off, c, ha, hcx, HT, HC, HI⟩ := Nums.get HR.out HL.out (Below.refl w.heap.size w) hlt
          subst ha
          by_cases hc0 : c < 0
          · have HB := hide (err_w (t := t) (by omega) HM.out HN.out HI.out (fun hh => by have := hh.1; omega))
            go_wp2_with fail
            go_ret2
            exact share_bad HB.out (by decide) (Below.refl _ _)
          · have hc0b : decide (c < 0) = false := decide_eq_false hc0
            by_cases hc1 : 1000000000000000 < c
            · have HB := hide (err_w (t := t) (by omega) HM.out HN.out HI.out (fun hh => by have := hh.2; omega))
              go_wp2_with fail
              go_ret2
              exact share_bad HB.out (by decide) (Below.refl _ _)
            · have hc1b : decide (1000000000000000 < c) = false := decide_eq_false hc1
              have HNX := hide (sum_take_snoc HT.out)
              have HA : Hid (∀ z ∈ zs.take (k + 1), fitW z) := by
                intro z hz
                rw [HT.out] at hz
                rcases List.mem_append.1 hz with h | h
                · exact HF.out z h
                · simp at h; subst h; exact ⟨by omega, by omega⟩
              go_wp2_with fail
              go_round
              case rel => exact ⟨k + 1, sv + c, by omega, by go_num, rfl, by omega, by omega, by have h1 := HS.out; unfold Hid; rw [HNX.out]; omega, HA⟩
              case measure => simp [intOf]; omega
        · have hke : k = len := by omega
          have HSS : Hid (sv = zs.sum) := by have := HS.out; rwa [List.take_of_length_le (by rw [HL.out]; omega)] at this
          have HFA : Hid (∀ z ∈ zs, fitW z) := by have := HF.out; rwa [List.take_of_length_le (by rw [HL.out]; omega)] at this
          clear HS HF
          by_cases hz : sv = 0
          · have hzb : (sv == 0) = true := by simp [hz]
            have HB := hide (err_s (t := t) (by omega) HM.out HN.out HFA.out (by rw [← HSS.out]; exact hz))
            clear hz
            go_wp2_with fail
            go_ret2
            exact share_bad HB.out (by decide) (Below.refl _ _)
          · have hzb : (sv == 0) = false := by simp [hz]
            have HE := hide (err_0 (t := t) (by omega) HM.out HN.out HFA.out (by rw [← HSS.out]; exact hz))
            subst hke
            have hsn : sv ≤ 4096000000000000000 := by omega
            have CW := hide (fun w h => wholeParts_any t sv a k cap zs w HL.out h1 h2 h (by omega) (by omega) (by omega) hsn (fun z hz => ⟨HFA.out z hz, by rw [HSS.out]; exact mem_le_sum zs HFA.out z hz⟩))
            have HLB := left_bounds t zs (by have := HSS.out; omega)
            rw [← HSS.out] at HLB
            have HQF : Hid (∀ z ∈ quots t sv zs, 0 ≤ z ∧ z ≤ t) := quots_fit (by omega) (by omega) (fun z hz => ⟨HFA.out z hz, by rw [HSS.out]; exact mem_le_sum zs HFA.out z hz⟩)
            have HCB2 := hide (HCB.out HE.out)
            have HHQ2 := hide (HHQ.out HE.out)
            rw [← HSS.out] at HCB2 HHQ2
            have HQL : Hid ((quots t sv zs).length = k) := by unfold Hid quots; rw [List.length_map]; exact HL.out
            have HRL : Hid ((rests t sv zs).length = k) := by unfold Hid rests; rw [List.length_map]; exact HL.out
            have HHL : zs.length = k := HL.out
            rw [HHL] at HLB
            clear HHL HCB HHQ
            generalize quots t sv zs = qs at *
            generalize rests t sv zs = rss at *
            go_wp2_with (go_at_call 43; refine (CW.out _ HR.out).mono ?_; rintro e w1 ⟨g, j, rfl, hown, hownR, hbel⟩)
            have hgw : w.heap.size ≤ g := by
              rcases own_some hown (by omega) with ⟨g', c', e', h', _⟩
              simp at e'; omega
            have hqc : ∀ i, i < k → w1.cell? ⟨g, i, none⟩ = some (.int .i64 (qs.getD i 0)) := fun i hi => by
              rw [hown.cellAt i (by omega)]; simp [List.getD, show i < qs.length by rw [HQL.out]; exact hi]
            have HRC : Hid (∀ i, i < k → w1.cell? ⟨j, i, none⟩ = some (.int .u64 (rss.getD i 0))) := fun i hi => by
              rw [hownR.cellAt i (by omega)]; simp [List.getD, show i < rss.length by rw [HRL.out]; exact hi]
            have HQC := hide hqc
            have HO := hide hown
            have HBL := hide hbel
            clear hqc hown hownR hbel
            go_loop [11, 13, 60] (fun l _ i => ∃ (k2 : Nat) (lv : Int), k2 ≤ k ∧ i = .int .i64 k2 ∧ l = .int .i64 lv ∧ -(1000000000000000 * (k2 : Int)) ≤ lv ∧ lv ≤ 1000000000000000 ∧ Hid (lv = t - (qs.take k2).sum)) (fun _ _ i => k - (intOf i).toNat)
            case atStart => exact ⟨0, t, by omega, rfl, rfl, by omega, by omega, by simp [Hid]⟩
            case round =>
              obtain ⟨k2, lv, hk2, rfl, rfl, hlv0, hlv1, HLV⟩ := hrel
              by_cases hlt2 : k2 < k
              · have hcx := HQC.out k2 hlt2
                have hcm : qs.getD k2 0 ∈ qs := by
                  have : k2 < qs.length := by rw [HQL.out]; exact hlt2
                  simp [List.getD, this]
                have hcb := HQF.out _ hcm
                have HTS : Hid ((qs.take (k2 + 1)).sum = (qs.take k2).sum + qs.getD k2 0) := by
                  unfold Hid
                  rw [List.take_add_one, List.getElem?_eq_getElem (by rw [HQL.out]; exact hlt2), List.sum_append]
                  have : k2 < qs.length := by rw [HQL.out]; exact hlt2
                  simp [List.getD, this]
                generalize qs.getD k2 0 = c at *
                go_wp2_with fail
                go_round
                case rel => exact ⟨k2 + 1, lv - c, by omega, by go_num, rfl, by omega, by omega, by have h1 := HLV.out; unfold Hid; rw [HTS.out]; omega⟩
                case measure => simp [intOf]; omega
              · have : k2 = k := by omega
                subst this
                have HLT : Hid (lv = t - qs.sum) := by have := HLV.out; rwa [List.take_of_length_le (by rw [HQL.out]; exact Nat.le_refl _)] at this
                rw [← HLT.out] at HLB HHQ2
                clear HLV
                have CR := hide (HCB2.out j k2 w1 HRC.out)
                obtain ⟨L, rfl⟩ : ∃ L : Nat, lv = L := ⟨lv.toNat, by omega⟩
                have hLk : L ≤ k2 := by omega
                go_wp2_with (go_at_call 44; refine CR.out.mono ?_; rintro e w2 ⟨blk, ds, rfl, hQ, hdl, hdm, hdc, hbw, hb2⟩)
                have hgr : w1.grownBy w2 none := ⟨hb2.os, hb2.tape, hb2.output, hb2.size, fun k hk _ => hb2.block k hk⟩
                have hown := HO.out.kept hgr (.inr (by simp [Value.ownBlock]))
                have hbel := HBL.out.grown hgr HBL.out.size (by simp)
                have hgb : g ≠ blk := by
                  have h0 : w1.cell? ⟨g, 0, none⟩ = some (.int .i64 (qs.getD 0 0)) := HQC.out 0 (by omega)
                  have := World.block_lt_of_cell? _ _ h0
                  simp at this; omega
                have HFin := hide (HHQ2.out ds hQ hdl)
                have HDM := hide hdm
                have HDL := hide hdl
                have hbq : ∀ z ∈ qs, 0 ≤ z ∧ z ≤ 1000000000000000 := fun z hz => by have := HQF.out z hz; omega
                have HBQ := hide hbq
                have HDC := hide hdc
                clear hgr HO HBL HQC hQ hdm hdl hdc hbq hb2 CR HRC CW
                go_loopw [15, 73] (fun _ i wr => ∃ (m : Nat) (os : List Int), m ≤ L ∧ i = .int .i64 m ∧ Hid (os = bump (ds.take m) qs) ∧ Hid (∀ z ∈ os, 0 ≤ z ∧ z ≤ 1000000000000000 + (m : Int)) ∧ wr.ownsRow w.heap.size 22 1 (.slice (some ⟨g, 0, none⟩) k2 k2) k2 (os.map (Value.int .i64)) ∧ Hid (∀ i, i < k2 → wr.cell? ⟨blk, i, none⟩ = some (.int .i64 (ds.getD i 0 : Nat))) ∧ Below w.heap.size w wr) (fun _ i _ => L - (intOf i).toNat)
                case atStart => exact ⟨0, qs, by omega, rfl, rfl, fun z hz => by have := HBQ.out z hz; omega, hown, HDC, hbel⟩
                case round =>
                  clear hown hbel HDC
                  obtain ⟨m, os, hm, rfl, HOS, HOB, hown, HDC, hbel⟩ := hrel
                  have HOL : Hid (os.length = k2) := by have := hown.1; simpa [Hid] using this
                  by_cases hlt3 : m < L
                  · have hpc := HDC.out m (by omega)
                    obtain ⟨pl, hpl⟩ : ∃ pl, pl = ds.getD m 0 := ⟨_, rfl⟩
                    rw [← hpl] at hpc
                    have hplk : pl < k2 := by
                      rw [hpl]
                      have : m < ds.length := by rw [HDL.out]; omega
                      exact HDM.out _ (by simp [List.getD, this])
                    have HTK : Hid (ds.take (m + 1) = ds.take m ++ [pl]) := by
                      unfold Hid
                      have : m < ds.length := by rw [HDL.out]; omega
                      rw [List.take_add_one, hpl]; simp [List.getD, this]
                    clear hpl
                    obtain ⟨c, hcc, HCO, HCI⟩ := own_get hown hplk
                    have hcb := HOB.out c HCI.out
                    have hf1 := hown.frozenAt pl
                    obtain ⟨ho4, hgr4⟩ := hown.stored pl (.int .i64 (c + 1))
                    have hbl5 : Below w.heap.size w (wr.setCell ⟨g, pl, none⟩ (.int .i64 (c + 1))) := hbel.setCell (by simpa using hgw) _
                    have HDC2 : Hid (∀ i, i < k2 → (wr.setCell ⟨g, pl, none⟩ (.int .i64 (c + 1))).cell? ⟨blk, i, none⟩ = some (.int .i64 (ds.getD i 0 : Nat))) := fun i hi => by
                      rw [World.cell?_setCell_other _ _ _ _ (by intro e; simp only [Addr.mk.injEq] at e; omega)]; exact HDC.out i hi
                    have HOS2 : Hid (os.set pl (c + 1) = bump (ds.take (m + 1)) qs) := by
                      unfold Hid; rw [HTK.out, bump_snoc, ← HOS.out, ← HCO.out]
                    have HOB2 : Hid (∀ z ∈ os.set pl (c + 1), 0 ≤ z ∧ z ≤ 1000000000000000 + ((m + 1 : Nat) : Int)) := mem_set_bound HOB.out (by omega) (by omega)
                    rw [← List.map_set] at ho4
                    have HO4 := hide ho4
                    have HB5 := hide hbl5
                    clear ho4 hbl5 hgr4 hown
                    go_wp2_with fail
                    go_roundw
                    case rel => exact ⟨m + 1, os.set pl (c + 1), by omega, by go_num, HOS2, HOB2, HO4.out, HDC2, HB5.out⟩
                    case measure => simp [intOf]; omega
                  · have : m = L := by omega
                    subst this
                    have HZ : Hid (shareOut t zs = os) := by unfold Hid; rw [HOS.out, ← HFin.out]; rfl
                    go_wp2_with fail
                    go_ret2
                    exact share_ok HE.out HZ.out HOL.out.symm hown hbel

end Go.Proofs.YthpbadnedhjncaaDoor
