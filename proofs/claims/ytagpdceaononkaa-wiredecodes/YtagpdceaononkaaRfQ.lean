/- The document's reader: fail, byte1, num. -/
import Derived.Test.YtagpdceaononkaaWRd
import Derived.Test.YtagpdceaononkaaRfRd
namespace Go.Proofs.Ytagpdceaononkaa
open Go.RowKit

def atS : Er Nat → Int
  | .ok p => p
  | .error c => c.2
def errS : Er Nat → Int
  | .ok _ => 0
  | .error c => c.1
def fineS (zs : List Int) : Er Nat → Prop
  | .ok p => p ≤ zs.length
  | .error c => c.1 ≠ 0
def failS (c q : Int) : Er Nat → Er Nat
  | .ok _ => .error (c, q)
  | .error e => .error e
/-- What a reading answers, and where it leaves the reader: from a fault on it stands still. -/
def opV (M : Nat → Er (Int × Nat)) (σ : Er Nat) : Int := match σ with
  | .ok p => match M p with
    | .ok x => x.1
    | .error _ => 0
  | .error _ => 0
def opS (M : Nat → Er (Int × Nat)) (σ : Er Nat) : Er Nat := match σ with
  | .ok p => match M p with
    | .ok x => .ok x.2
    | .error c => .error c
  | .error c => .error c
theorem op_next {α : Type} {M : Nat → Er (Int × Nat)} {σ : Er Nat} {f : Int × Nat → Er α} {o : Er α} (h : (σ >>= fun p => M p >>= f) = o) : (opS M σ >>= fun q => f (opV M σ, q)) = o := by
  cases σ with
  | error c => exact h
  | ok p =>
    unfold opS opV
    simp only
    have h' : (M p >>= f) = o := h
    cases hm : M p with
    | error c => rw [hm] at h'; exact h'
    | ok x => rw [hm] at h'; exact h'
theorem opS_ok {M : Nat → Er (Int × Nat)} {p : Nat} {x : Int × Nat} (h : M p = .ok x) : opS M (.ok p) = .ok x.2 := by unfold opS; simp only [h]
theorem opV_ok {M : Nat → Er (Int × Nat)} {p : Nat} {x : Int × Nat} (h : M p = .ok x) : opV M (.ok p) = x.1 := by unfold opV; simp only [h]
theorem opS_no {M : Nat → Er (Int × Nat)} {p : Nat} {c : Int × Int} (h : M p = .error c) : opS M (.ok p) = .error c := by unfold opS; simp only [h]
theorem opV_no {M : Nat → Er (Int × Nat)} {p : Nat} {c : Int × Int} (h : M p = .error c) : opV M (.ok p) = 0 := by unfold opV; simp only [h]
/-- The reader in memory. -/
structure Rq (R : Nat) (ba : Option Addr) (bc : Nat) (zs : List Int) (σ : Er Nat) (w : World) : Prop where
  bx : Fx R 72 [.slice ba zs.length bc, .int .i64 (atS σ), .int .i64 (errS σ)] w
  row : Row w ba zs
  bl : ∀ b off, ba = some ⟨b, off, none⟩ → zs ≠ [] → b < R
  cap : zs.length ≤ bc
  len : zs.length ≤ 140737488351232
  ok : fineS zs σ
section
variable {R p : Nat} {ba : Option Addr} {bc : Nat} {zs : List Int} {σ τ : Er Nat} {w w' : World}
theorem Rq.keep (h : Rq R ba bc zs σ w) (hb : ∀ k, k ≤ R → w'.heap[k]? = w.heap[k]?) : Rq R ba bc zs σ w' := by
  refine ⟨h.bx.keep (hb R (Nat.le_refl _)), ⟨fun hz => ?_, h.row.byte⟩, h.bl, h.cap, h.len, h.ok⟩
  obtain ⟨b, off, e, hc⟩ := h.row.cells hz
  have hl := h.bl b off e hz
  exact ⟨b, off, e, fun i hi => (World.cell?_of_block (hb b (by omega))).trans (hc i hi)⟩
theorem Rq.lt (h : Rq R ba bc zs σ w) : R < w.heap.size := h.bx.lt
theorem Rq.below (h : Rq R ba bc zs σ w) (hb : Below w.heap.size w w') : Rq R ba bc zs σ w' := h.keep fun k hk => hb.block k (by have := h.lt; omega)
theorem Rq.other (h : Rq R ba bc zs σ w) (i : Nat) (v : Value) (hf : Fx R 72 [.slice ba zs.length bc, .int .i64 (atS τ), .int .i64 (errS τ)] (w.setCell ⟨R, i, none⟩ v)) (hok : fineS zs τ) : Rq R ba bc zs τ (w.setCell ⟨R, i, none⟩ v) := by
  refine ⟨hf, ⟨fun hz => ?_, h.row.byte⟩, h.bl, h.cap, h.len, hok⟩
  obtain ⟨b, off, e, hc⟩ := h.row.cells hz
  have hl := h.bl b off e hz
  exact ⟨b, off, e, fun i hi => (World.cell?_of_block (other_set (k := b) (show b ≠ R by omega))).trans (hc i hi)⟩
theorem Rq.go (h : Rq R ba bc zs σ w) (h0 : errS σ = 0) {q : Nat} (hq : q ≤ zs.length) : Rq R ba bc zs (.ok q) (w.setCell ⟨R, 1, none⟩ (.int .i64 q)) := h.other 1 _ (by have := h.bx.set 1 (.int .i64 q); rw [h0] at this; exact this) hq
theorem Rq.bytes (h : Rq R ba bc zs σ w) : ∀ z ∈ zs, 0 ≤ z ∧ z ≤ 255 := fun z hm => by
  obtain ⟨i, hi, rfl⟩ := List.mem_iff_getElem.1 hm
  have := h.row.byte i
  rw [List.getElem?_eq_getElem hi] at this
  exact this
theorem Rq.fail2 (h : Rq R ba bc zs (.ok p) w) {c q : Int} (hc : c ≠ 0) : Rq R ba bc zs (.error (c, q)) ((w.setCell ⟨R, 2, none⟩ (.int .i64 c)).setCell ⟨R, 1, none⟩ (.int .i64 q)) := by
  have h2 := (h.bx.set 2 (.int .i64 c)).set 1 (.int .i64 q)
  refine ⟨h2, ⟨fun hz => ?_, h.row.byte⟩, h.bl, h.cap, h.len, hc⟩
  obtain ⟨b, off, e, hcc⟩ := h.row.cells hz
  have hl := h.bl b off e hz
  exact ⟨b, off, e, fun i hi => (World.cell?_of_block ((other_set (k := b) (show b ≠ R by omega)).trans (other_set (k := b) (show b ≠ R by omega)))).trans (hcc i hi)⟩
set_option maxRecDepth 100000 in
set_option maxHeartbeats 3200000 in
theorem fail_any (h : Rq R ba bc zs σ w) {c q : Int} (hc : c ≠ 0) : Calls Try.prog 32 #[ptr R, .int .i64 c, .int .i64 q] w fun e w' => e = .returned (.tuple #[]) ∧ Rq R ba bc zs (failS c q σ) w' ∧ Fr (fun k => k = R) w w' := by
  have c2 := h.bx.get (i := 2) rfl
  have c1 := h.bx.get (i := 1) rfl
  have kf := h.bx.frz
  cases σ with
  | error e =>
    have he : (errS (.error e) == 0) = false := by have : e.1 ≠ 0 := h.ok; simpa [errS] using this
    have HD := hide h
    clear h
    generalize errS (.error e) = x at *
    generalize atS (.error e) = y at *
    go_enter Try.func32, Try.ntmps32
    go_wp2_with fail
    go_end0
    exact ⟨rfl, HD.out, Fr.refl _ _⟩
  | ok p =>
    have HD := hide (h.fail2 (q := q) hc)
    have HF : Hid (Fr (fun k => k = R) w ((w.setCell ⟨R, 2, none⟩ (.int .i64 c)).setCell ⟨R, 1, none⟩ (.int .i64 q))) := hide ((Fr.setCell (Z := fun k => k = R) ⟨R, 2, none⟩ _ rfl).trans (.setCell ⟨R, 1, none⟩ _ rfl))
    change w.cell? ⟨R, 1, none⟩ = some (.int .i64 p) at c1
    change w.cell? ⟨R, 2, none⟩ = some (.int .i64 0) at c2
    clear h
    go_enter Try.func32, Try.ntmps32
    go_wp2_with fail
    go_end0
    exact ⟨rfl, HD.out, HF.out⟩
theorem oct_yes {a b : Int} {p : Nat} (hp : p < zs.length) (hw : wiM (zs.getD p 0) a b = true) : octM zs a b p = .ok (zs.getD p 0, p + 1) := by unfold octM; rw [if_neg (by omega), if_pos hw]
theorem oct_no {a b : Int} {p : Nat} (hp : p < zs.length) (hw : wiM (zs.getD p 0) a b = false) : octM zs a b p = .error (211, (p : Int)) := by unfold octM; rw [if_neg (by omega), if_neg (by rw [hw]; decide)]
theorem oct_out {a b : Int} {p : Nat} (hp : zs.length ≤ p) : octM zs a b p = .error (8, (p : Int)) := by unfold octM; rw [if_pos hp]
set_option maxRecDepth 100000 in
set_option maxHeartbeats 6400000 in
theorem byte1_any (h : Rq R ba bc zs σ w) {a b : Int} : Calls Try.prog 30 #[ptr R, .int .u8 a, .int .u8 b] w fun e w' => e = .returned (.int .u8 (opV (octM zs a b) σ)) ∧ Rq R ba bc zs (opS (octM zs a b) σ) w' ∧ Fr (fun k => k = R) w w' := by
  have c0 := h.bx.get (i := 0) rfl
  have c1 := h.bx.get (i := 1) rfl
  have c2 := h.bx.get (i := 2) rfl
  have hlen := h.len
  cases σ with
  | error e =>
    have he : (errS (.error e) != 0) = true := by have : e.1 ≠ 0 := h.ok; simpa [errS] using this
    have HD := hide h
    clear h
    generalize errS (.error e) = x at *
    go_enter Try.func30, Try.ntmps30
    go_wp2_with fail
    go_ret
    exact ⟨rfl, HD.out, Fr.refl _ _⟩
  | ok p =>
    have hpos : p ≤ zs.length := h.ok
    change w.cell? ⟨R, 1, none⟩ = some (.int .i64 p) at c1
    change w.cell? ⟨R, 2, none⟩ = some (.int .i64 0) at c2
    by_cases hl : zs.length ≤ p
    · have hpe : p = zs.length := by omega
      have HS : Hid (opS (octM zs a b) (.ok p) = .error (8, (zs.length : Int))) := hide (by unfold opS; simp only; rw [oct_out hl, hpe])
      have HV : Hid (opV (octM zs a b) (.ok p) = 0) := hide (by unfold opV; simp only; rw [oct_out hl])
      have CF := hide (fun n => fail_any (h.below (below_drewN w n)) (c := 8) (q := (zs.length : Int)) (by decide))
      clear h
      go_enter Try.func30, Try.ntmps30
      go_wp2_with fail
      go_quiet (fail)
      go_wp2_with (go_at_call 32; refine (CF.out _).mono ?_; rintro _ w1 ⟨rfl, hd, hf⟩; have HD := hide hd; have HF := hide ((Fr.of_below (Z := fun k => k = R) (below_drewN w _)).trans hf); clear hd hf)
      go_ret
      rw [HS.out, HV.out]
      exact ⟨rfl, HD.out, HF.out⟩
    · have hkl : p < zs.length := by omega
      have hby := h.row.byte p
      obtain ⟨bb, off, e, hcells⟩ := h.row.cells (by intro e; subst e; simp at hkl)
      have kc := hcells p hkl
      subst e
      have kfr := h.bx.frz
      obtain ⟨x, hx⟩ : ∃ x, zs.getD p 0 = x := ⟨_, rfl⟩
      have hxb : 0 ≤ x ∧ x ≤ 255 := by rw [← hx]; simpa [List.getD] using hby
      by_cases hw : wiM x a b = true
      · have HS : Hid (opS (octM zs a b) (.ok p) = .ok (p + 1)) := hide (by unfold opS; simp only; rw [oct_yes hkl (by rw [hx]; exact hw)])
        have HV : Hid (opV (octM zs a b) (.ok p) = x) := hide (by unfold opV; simp only; rw [oct_yes hkl (by rw [hx]; exact hw)]; exact hx)
        have HG : Hid (∀ n, Rq R (some ⟨bb, off, none⟩) bc zs (.ok (p + 1)) ((w.drewN n).setCell ⟨R, 1, none⟩ (.int .i64 ((p : Int) + 1)))) := hide fun n => (h.below (below_drewN w n)).go rfl (q := p + 1) (by omega)
        obtain ⟨w1, w2⟩ := wi_iff.1 hw
        have y1 : decide (x < a) = false := decide_eq_false (by omega)
        have y2 : decide (b < x) = false := decide_eq_false (by omega)
        rw [hx] at kc
        clear h hw hcells hx hby
        go_enter Try.func30, Try.ntmps30
        go_wp2_with fail
        go_quiet (fail)
        go_wp2_with fail
        go_quiet (fail)
        go_wp2_with fail
        go_ret
        rw [HS.out, HV.out]
        exact ⟨rfl, HG.out _, (Fr.of_below (below_drewN w _)).trans (.setCell ⟨R, 1, none⟩ _ rfl)⟩
      · have hwf : wiM x a b = false := by cases hq : wiM x a b; rfl; exact absurd hq hw
        have HS : Hid (opS (octM zs a b) (.ok p) = .error (211, (p : Int))) := hide (by unfold opS; simp only; rw [oct_no hkl (by rw [hx]; exact hwf)])
        have HV : Hid (opV (octM zs a b) (.ok p) = 0) := hide (by unfold opV; simp only; rw [oct_no hkl (by rw [hx]; exact hwf)])
        have hno : x < a ∨ (¬ x < a ∧ b < x) := by
          apply Classical.byContradiction
          intro hn
          exact hw (wi_iff.2 (by omega))
        have CF := hide (fun n => fail_any (h.below (below_drewN w n)) (c := 211) (q := (p : Int)) (by decide))
        rw [hx] at kc
        clear h hw hwf hcells hx hby
        rcases hno with y1 | ⟨y1, y2⟩
        all_goals
          go_enter Try.func30, Try.ntmps30
          go_wp2_with fail
          go_quiet (fail)
          go_wp2_with fail
          go_quiet (fail)
          go_wp2_with (go_at_call 32; refine (CF.out _).mono ?_; rintro _ w1 ⟨rfl, hd, hf⟩; have HD := hide hd; have HF := hide ((Fr.of_below (Z := fun k => k = R) (below_drewN w _)).trans hf); clear hd hf)
          go_ret
          rw [HS.out, HV.out]
          exact ⟨rfl, HD.out, HF.out⟩
set_option maxRecDepth 100000 in
set_option maxHeartbeats 6400000 in
theorem rnum_any (h : Rq R ba bc zs σ w) {most : Int} (h0 : 0 ≤ most) (h1 : most < 9223372036854775808) :
    Calls Try.prog 31 #[ptr R, .int .i64 most] w fun e w' => e = .returned (.int .i64 (opV (numM zs most) σ)) ∧ Rq R ba bc zs (opS (numM zs most) σ) w' ∧ Fr (fun k => k = R) w w' := by
  have c0 := h.bx.get (i := 0) rfl
  have c1 := h.bx.get (i := 1) rfl
  have c2 := h.bx.get (i := 2) rfl
  have hlen := h.len
  cases σ with
  | error e =>
    have he : (errS (.error e) != 0) = true := by have : e.1 ≠ 0 := h.ok; simpa [errS] using this
    have HD := hide h
    clear h
    generalize errS (.error e) = x at *
    go_enter Try.func31, Try.ntmps31
    go_wp2_with fail
    go_ret
    exact ⟨rfl, HD.out, Fr.refl _ _⟩
  | ok p =>
    have hpos : p ≤ zs.length := h.ok
    change w.cell? ⟨R, 1, none⟩ = some (.int .i64 p) at c1
    change w.cell? ⟨R, 2, none⟩ = some (.int .i64 0) at c2
    obtain ⟨b1, b2, b3⟩ := rd_num hpos h.row.byte
    have CR : Hid (∀ q, Calls Try.prog 43 #[.slice ba zs.length bc, .int .i64 p] (w.drewN q) fun e w' => e = .returned (trip (readU zs p)) ∧ w' = w.drewN q) := hide fun q => refRead_any ba zs.length bc zs p (w.drewN q) rfl (by omega) (h.below (below_drewN w q)).row
    obtain ⟨M, hM⟩ : ∃ M, numM zs most p = M := ⟨_, rfl⟩
    have HMM := hide hM
    unfold numM at hM
    obtain ⟨n, t, e, hr⟩ : ∃ n t e, readU zs p = (n, t, e) := ⟨_, _, _, rfl⟩
    rw [hr] at hM b1 b2 b3 CR
    unfold trip at CR
    simp only at hM b1 b2 b3 CR
    have kfr := h.bx.frz
    have HH := hide h
    have HM := hide hM
    have hw1 : IntKind.u64.wrap most = most := by rw [IntKind.wrap_u64]; omega
    clear h hM hr
    go_enter Try.func31, Try.ntmps31
    go_upto_region 3 with fail
    go_quiet ((go_at_call 43; exact Calls.quiet_of_same (CR.out _)))
    by_cases he : e = 0
    · obtain ⟨n0, n1⟩ := b3 he
      subst he
      obtain ⟨q, rfl⟩ := Int.eq_ofNat_of_zero_le b1
      by_cases hl : most < n
      · have HE : Hid (M = .error (211, (p : Int))) := hide (by have := HM.out; rw [if_neg (by simp), if_pos hl] at this; exact this.symm)
        have CF := hide (fun n => fail_any (HH.out.below (below_drewN w n)) (c := 211) (q := (p : Int)) (by decide))
        have HS := hide (opS_no (M := numM zs most) (HMM.out.trans HE.out))
        have HV := hide (opV_no (M := numM zs most) (HMM.out.trans HE.out))
        clear HM HE
        go_wp2_with (go_at_call 32; refine (CF.out _).mono ?_; rintro _ w1 ⟨rfl, hd, hf⟩; have HD := hide hd; have HF := hide ((Fr.of_below (Z := fun k => k = R) (below_drewN w _)).trans hf); clear hd hf)
        go_ret
        rw [HS.out, HV.out]
        exact ⟨rfl, HD.out, HF.out⟩
      · have HE : Hid (M = .ok (n, q)) := hide (by have := HM.out; rw [if_neg (by simp), if_neg (by omega)] at this; rw [← this]; simp)
        have hw3 : IntKind.i64.wrap n = n := by rw [IntKind.wrap_i64]; omega
        have HG : Hid (∀ k, Rq R ba bc zs (.ok q) ((w.drewN k).setCell ⟨R, 1, none⟩ (.int .i64 q))) := hide fun k => (HH.out.below (below_drewN w k)).go rfl (by omega)
        have HS := hide (opS_ok (M := numM zs most) (HMM.out.trans HE.out))
        have HV := hide (opV_ok (M := numM zs most) (HMM.out.trans HE.out))
        clear HM HE
        go_wp2_with fail
        go_ret
        rw [HS.out, HV.out]
        exact ⟨rfl, HG.out _, (Fr.of_below (below_drewN w _)).trans (.setCell ⟨R, 1, none⟩ (.int .i64 q) rfl)⟩
    · have HE : Hid (M = .error (e, t)) := hide (by have := HM.out; rw [if_pos he] at this; exact this.symm)
      have heb : (e != 0) = true := by simpa using he
      have CF := hide (fun n => fail_any (HH.out.below (below_drewN w n)) (c := e) (q := t) he)
      have HS := hide (opS_no (M := numM zs most) (HMM.out.trans HE.out))
      have HV := hide (opV_no (M := numM zs most) (HMM.out.trans HE.out))
      clear HM HE b3
      go_wp2_with (go_at_call 32; refine (CF.out _).mono ?_; rintro _ w1 ⟨rfl, hd, hf⟩; have HD := hide hd; have HF := hide ((Fr.of_below (Z := fun k => k = R) (below_drewN w _)).trans hf); clear hd hf)
      go_ret
      rw [HS.out, HV.out]
      exact ⟨rfl, HD.out, HF.out⟩
end
end Go.Proofs.Ytagpdceaononkaa
