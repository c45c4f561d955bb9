/- The document's answer, layer 15: NewWorld (written by tools/gen17/rg6.py). -/
import Derived.Test.YtcobmbclhhimjaaGreatRg1
import Derived.Test.YtcobmbclhhimjaaGreatNvM
import Derived.Test.YtcobmbclhhimjaaGreatFrs
import Derived.Test.YtcobmbclhhimjaaGreatInv9
import Derived.Test.YtcobmbclhhimjaaGreatNix
namespace Go.Proofs.YtcobmbclhhimjaaGreat.Rf
open Go.RowKit Rg Fa

theorem does_make {P : Program} {E : List PanicEntry → World → Prop} {ρ : Operand → Value} {o : Oper} {w : World} {R : Value → World → Prop} (l c : Operand) (t : TypeId) (ho : o.op = Op.makeSlice t l c) (e : TypeId) (i : TypeInfo) (z : Value) (h1 : P.underlying t = some (.slice e)) (h2 : P.info? e = some i) (h3 : i.zero = some z) (h4 : i.size = 1) (h5 : z.cells = #[z])
    (n : Nat) (hl : ρ l = .int .i64 n) (hc : ρ c = .int .i64 n) (b2 : i.bytes * n ≤ 281474976710656) (b3 : n ≤ maxLen) (h : R (.slice (some ⟨w.heap.size, 0, none⟩) n n) (w.alloc (.cells (Array.replicate n z) e))) : Does P E ρ o w R := by
  have hb' : (i.bytes : Int) * (n : Int) ≤ 281474976710656 := by
    have h : ((i.bytes * n : Nat) : Int) ≤ 281474976710656 := by omega
    rwa [Int.natCast_mul] at h
  have h63' : (n : Int) ≤ 9223372036854775807 := by
    have h := b3
    simp [maxLen] at h
    omega
  have hrun := run_make (P := P) w t e i z h1 h2 h3 .i64 .i64 n n (by omega) (Int.le_refl _) hb' h63'
  rw [h4, Nat.mul_one, h5, made_one] at hrun
  unfold Does
  simp [execOp, ho, hl, hc, hrun, Result.andThen]
  exact h
/-- A world half made. -/
structure Nz (A : Wa) (bx hb K : Nat) (T : Th) (F : List Int) (n k : Nat) (H : List (List Int)) (vs : List Value) (w w' : World) : Prop where
  bo : Fx bx 25 [.int .i64 T.lits, .slice A.fa T.foes.length A.fc, .slice A.ra T.rules.length A.rc, .slice A.ba T.beats.length A.bc] w'
  wo : Fx K 103 (wdL A T F n) w'
  hv : Hv hb n H vs w'
  gp : Grp T kA n k H
  lo : Below w.heap.size w w'
  nb : w.heap.size ≤ hb ∧ bx < hb
section
variable {A : Wa} {bx hb K n k : Nat} {T : Th} {F : List Int} {H : List (List Int)} {vs : List Value} {w w' w'' : World}
theorem Nz.go (h : Nz A bx hb K T F n k H vs w w') (hb' : Below w'.heap.size w' w'') : Nz A bx hb K T F n k H vs w w'' :=
  ⟨h.bo.keep (hb'.block _ h.bo.lt), h.wo.keep (hb'.block _ h.wo.lt), h.hv.go hb', h.gp, h.lo.trans (hb'.mono h.lo.size), h.nb⟩
theorem lists_rows {B hb n : Nat} {H : List (List Int)} {vs : List Value} {w : World} (h : Hv hb n H vs w) (hB : w.heap.size ≤ B) (hn : n ≤ 4096) (hl : ∀ l ∈ H, l.length ≤ 4096) : Lists B w H (.slice (some ⟨hb, 0, none⟩) n n) := by
  refine ⟨_, n, by rw [h.ln], by rw [h.ln]; exact Nat.le_refl _, by rw [h.ln]; omega, fun i l hi => ?_⟩
  have hin : i < n := by rw [← h.ln]; exact (List.getElem?_eq_some_iff.1 hi).1
  obtain ⟨l2, a, c, h1, h2, h3, h4⟩ := h.at hin
  rw [hi] at h1
  cases h1
  refine ⟨hb, 0, [.slice a l.length c], rfl, Nat.lt_of_lt_of_le h.fx.lt hB, rfl, fun j u hu => ?_, _, rfl, ?_⟩
  · match j, hu with
    | 0, hu => simp at hu; subst hu; rw [Nat.mul_one, Nat.zero_add]; exact h3
  · have h5 := owns_at1 h4
    have hll := hl l (List.mem_of_getElem? hi)
    have hc : l.length ≤ c := by
      rcases h4.2 with ⟨e, h0⟩ | ⟨g, cap, cur, e, _, _, hcap, _⟩
      · omega
      · have := (Value.slice.inj e).2.2; omega
    refine ⟨a, c, rfl, hc, by omega, fun j x hj => ?_⟩
    obtain ⟨g, o, e, hcell⟩ := h5 j (.int .i64 x) (by unfold ints; rw [List.getElem?_map, hj]; rfl)
    refine ⟨g, o, [.int .i64 x], e, Nat.lt_of_lt_of_le (World.block_lt_of_cell? w _ hcell) hB, rfl, fun p u hu => ?_, rfl⟩
    match p, hu with
    | 0, hu => simp at hu; subst hu; rw [Nat.mul_one]; exact hcell
end
theorem ws3_any {i1 i2 i3 : Nat} {w0 w1 w2 X : World} {L : Nat → Bool} (hX : X = ws3 i1 i2 i3 w0 w1 w2 w2 L) : X = w0 ∨ X = w1 ∨ X = w2 := by
  rw [hX]
  unfold ws3
  split
  · exact .inr (.inr rfl)
  · split
    · exact .inr (.inr rfl)
    · split
      · exact .inr (.inl rfl)
      · exact .inl rfl
set_option maxRecDepth 100000 in
set_option maxHeartbeats 25600000 in
theorem newWorld_own {w : World} {T : Th} {F : List Int} {n : Nat} {fa ra ba xa : Option Addr} {fc rc bc xc : Nat} (hp : Pf T F n) (h : TA w.heap.size w T fa fc ra rc ba bc) (hF : Ints w.heap.size w F (.slice xa F.length xc)) :
    Calls Tryz.prog 43 #[tv T fa fc ra rc ba bc, .slice xa F.length xc] w fun e w' => ∃ vs, e = .returned (ptr (w.heap.size + 2)) ∧ Fx (w.heap.size + 2) 103 (wdL ⟨fa, fc, ra, rc, ba, bc, xa, xc, some ⟨w.heap.size + 1, 0, none⟩, n⟩ T F n) w' ∧ Hv (w.heap.size + 1) n (grp T kA n) vs w' ∧ Below w.heap.size w w' := by
  obtain ⟨iI, hiI, zI0, zI1, zI2⟩ := info_parts infoI
  obtain ⟨iL, hiL, zL0, zL1, zL2⟩ := info_parts infoL
  have hB := below_new w (.cells #[.int .i64 T.lits, .slice fa T.foes.length fc, .slice ra T.rules.length rc, .slice ba T.beats.length bc] 25)
  have hX := heap_alloc_new w (.cells #[.int .i64 T.lits, .slice fa T.foes.length fc, .slice ra T.rules.length rc, .slice ba T.beats.length bc] 25)
  have HP := hide hp
  have HH := hide h
  have HF := hide hF
  have hn4 := hp.n4
  have HLn := hide hp.ln
  have hrl := h.rules.lim
  have HB := hide hB
  have HW0 : Hid ((w.alloc (.cells #[.int .i64 T.lits, .slice fa T.foes.length fc, .slice ra T.rules.length rc, .slice ba T.beats.length bc] 25)).heap.size = w.heap.size + 1) := hide (by simp)
  clear h hF hp hB
  go_enter Tryz.func43, Tryz.ntmps43
  go_upto_region 1 with fail
  generalize w.alloc (.cells #[.int .i64 T.lits, .slice fa T.foes.length fc, .slice ra T.rules.length rc, .slice ba T.beats.length bc] 25) = W at *
  obtain ⟨-, c0, c1, c2, c3⟩ := Bt.of hX
  rw [HLn.out] at c0
  have HX := hide hX
  clear hX
  obtain ⟨wd, HWD⟩ : ∃ wd, Hid (W.drew = wd) := ⟨_, hide rfl⟩
  have hdr : Below W.heap.size W wd := by rw [← HWD.out]; exact ⟨rfl, rfl, rfl, Nat.le_refl _, fun _ _ => rfl⟩
  have hds : wd.heap.size = w.heap.size + 1 := by rw [← HWD.out]; exact HW0.out
  obtain ⟨w1, HW1⟩ : ∃ w1, Hid (wd.alloc (.cells (Array.replicate n (.slice none 0 0)) 26) = w1) := ⟨_, hide rfl⟩
  have hb1 : Below wd.heap.size wd w1 := by rw [← HW1.out]; exact below_new _ _
  have h1s : w1.heap.size = w.heap.size + 2 := by rw [← HW1.out]; simp; omega
  obtain ⟨w2, HW2⟩ : ∃ w2, Hid (w1.alloc (.cells #[.int .i64 n, .slice fa T.foes.length fc, .slice ra T.rules.length rc, .slice ba T.beats.length bc, .slice xa F.length xc, .slice (some ⟨w.heap.size + 1, 0, none⟩) n n] 103) = w2) := ⟨_, hide rfl⟩
  have hb2 : Below w1.heap.size w1 w2 := by rw [← HW2.out]; exact below_new _ _
  have hkeep : ∀ {a : Addr} {v : Value}, W.cell? a = some v → ∀ X, X = wd ∨ X = w1 ∨ X = w2 → X.cell? a = some v := fun ha X hX => by
    have q0 := cell_on ha hdr
    have q1 := cell_on q0 hb1
    have q2 := cell_on q1 hb2
    rcases hX with rfl | rfl | rfl
    · exact q0
    · exact q1
    · exact q2
  have LB : Hid (∀ X, X = wd ∨ X = w1 ∨ X = w2 → X.cell? ⟨w.heap.size, 0, none⟩ = some (.int .i64 n) ∧ X.cell? ⟨w.heap.size, 1, none⟩ = some (.slice fa T.foes.length fc) ∧ X.cell? ⟨w.heap.size, 2, none⟩ = some (.slice ra T.rules.length rc) ∧ X.cell? ⟨w.heap.size, 3, none⟩ = some (.slice ba T.beats.length bc)) := hide fun X hX => ⟨hkeep c0 X hX, hkeep c1 X hX, hkeep c2 X hX, hkeep c3 X hX⟩
  have NZ0 : Hid (Nz ⟨fa, fc, ra, rc, ba, bc, xa, xc, some ⟨w.heap.size + 1, 0, none⟩, n⟩ w.heap.size (w.heap.size + 1) (w.heap.size + 2) T F n 0 (List.replicate n []) (List.replicate n (.slice none 0 0)) w w2) := hide (by
    have hv := Hv.start wd n
    rw [HW1.out, hds] at hv
    have hw := heap_alloc_new w1 (.cells #[.int .i64 n, .slice fa T.foes.length fc, .slice ra T.rules.length rc, .slice ba T.beats.length bc, .slice xa F.length xc, .slice (some ⟨w.heap.size + 1, 0, none⟩) n n] 103)
    rw [HW2.out, h1s] at hw
    refine ⟨?_, ?_, hv.go hb2, Grp.start T kA n, ?_, by omega, by omega⟩
    · unfold Fx
      rw [hb2.block _ (by omega), hb1.block _ (by omega), hdr.block _ (by rw [HW0.out]; omega), HX.out]
    · unfold Fx wdL
      rw [hw, HLn.out]
    · exact HB.out.trans ((hdr.trans ((hb1.trans (hb2.mono hb1.size)).mono hdr.size)).mono HB.out.size))
  clear c0 c1 c2 c3 hkeep hb1 hb2 hdr
  have HOK : Hid (okD (([some (7, .agg #[.int .i64 n, .slice fa T.foes.length fc, .slice ra T.rules.length rc, .slice ba T.beats.length bc]), some (8, .slice xa F.length xc), some (9, .pointer (some ⟨w.heap.size, 0, none⟩)), some (10, .int .i64 n), some (11, .slice (some ⟨w.heap.size + 1, 0, none⟩) n n), some (12, .agg #[.int .i64 n, .slice fa T.foes.length fc, .slice ra T.rules.length rc, .slice ba T.beats.length bc, .slice xa F.length xc, .slice (some ⟨w.heap.size + 1, 0, none⟩) n n]), some (13, ptr (w.heap.size + 2)), some (5, ptr (w.heap.size + 2))] : List (Option (Nat × Value))).map fun p : Option (Nat × Value) => p.map Prod.fst) [(2, ptr w.heap.size), (1, .slice xa F.length xc)] = true) := hide rfl
  refine region_j Fa.NoE (Jt [some (7, .agg #[.int .i64 n, .slice fa T.foes.length fc, .slice ra T.rules.length rc, .slice ba T.beats.length bc]), some (8, .slice xa F.length xc), some (9, .pointer (some ⟨w.heap.size, 0, none⟩)), some (10, .int .i64 n), some (11, .slice (some ⟨w.heap.size + 1, 0, none⟩) n n), some (12, .agg #[.int .i64 n, .slice fa T.foes.length fc, .slice ra T.rules.length rc, .slice ba T.beats.length bc, .slice xa F.length xc, .slice (some ⟨w.heap.size + 1, 0, none⟩) n n]), some (13, ptr (w.heap.size + 2)), some (5, ptr (w.heap.size + 2))] [(2, ptr w.heap.size), (1, .slice xa F.length xc)] (ws3 4 6 7 wd w1 w2 w2)) (by kernel_rfl) (by kernel_rfl) ?_ (steps_j ⟨?_, ?_, ?_, ?_, ?_, ?_, ?_, ?_, trivial⟩) ?_ ?_
  · exact ⟨fun p hp => by simp at hp; rcases hp with rfl | rfl <;> rfl, fun i d v _ hL => (by cases hL), HWD.out⟩
  · intro ρ X L hc hf hL hd hcl hJ
    have k2 : ρ (.tmp 2) = ptr w.heap.size := hJ.base (2, ptr w.heap.size) (by simp)
    obtain ⟨x0, x1, x2, x3⟩ := LB.out X (ws3_any hJ.wd)
    refine does_value (v := .agg #[.int .i64 n, .slice fa T.foes.length fc, .slice ra T.rules.length rc, .slice ba T.beats.length bc]) (w' := X) ?_ (hJ.put HOK.out rfl (by rw [ws3_off (by decide) (by decide) (by decide)]; exact hJ.wd))
    clear hd hcl hJ hL
    go_simp
  · intro ρ X L hc hf hL hd hcl hJ
    have k1 : ρ (.tmp 1) = .slice xa F.length xc := hJ.base (1, .slice xa F.length xc) (by simp)
    refine does_value (v := .slice xa F.length xc) (w' := X) ?_ (hJ.put HOK.out rfl (by rw [ws3_off (by decide) (by decide) (by decide)]; exact hJ.wd))
    clear hd hcl hJ hL
    go_simp
  · intro ρ X L hc hf hL hd hcl hJ
    have k2 : ρ (.tmp 2) = ptr w.heap.size := hJ.base (2, ptr w.heap.size) (by simp)
    refine does_value (v := .pointer (some ⟨w.heap.size, 0, none⟩)) (w' := X) ?_ (hJ.put HOK.out rfl (by rw [ws3_off (by decide) (by decide) (by decide)]; exact hJ.wd))
    clear hd hcl hJ hL
    go_simp
  · intro ρ X L hc hf hL hd hcl hJ
    have k9 : ρ (.tmp 9) = .pointer (some ⟨w.heap.size, 0, none⟩) := hJ.vals 2 9 (.pointer (some ⟨w.heap.size, 0, none⟩)) rfl (hd ⟨2, .data⟩ (by simp) rfl)
    obtain ⟨x0, x1, x2, x3⟩ := LB.out X (ws3_any hJ.wd)
    refine does_value (v := .int .i64 n) (w' := X) ?_ (hJ.put HOK.out rfl (by rw [ws3_off (by decide) (by decide) (by decide)]; exact hJ.wd))
    clear hd hcl hJ hL
    go_simp
  · intro ρ X L hc hf hL hd hcl hJ
    have k10 : ρ (.tmp 10) = .int .i64 n := hJ.vals 3 10 (.int .i64 n) rfl (hd ⟨3, .data⟩ (by simp) rfl)
    have h7 : L 7 = false := not_done (by kernel_rfl) hcl (k := 4) (by simp) hL
    have h6 : L 6 = false := by cases e : L 6 with | false => rfl | true => (have q5 := hcl 6 _ rfl e ⟨5, .data⟩ (by simp) rfl; rw [show (⟨5, .data⟩ : Edge).on = 5 from rfl] at q5; have q4 := hcl 5 _ rfl q5 ⟨4, .data⟩ (by simp) rfl; rw [show (⟨4, .data⟩ : Edge).on = 4 from rfl] at q4; rw [hL] at q4; cases q4)
    have hX := hJ.wd.trans (ws3_0 hL h6 h7)
    refine does_make _ _ 22 rfl 26 iL _ Tryz.underlying22 hiL zL0 zL1 rfl n k10 k10 (by rw [zL2]; omega) (by unfold maxLen; omega) ?_
    rw [hX, hds, HW1.out]
    exact hJ.put HOK.out rfl ((ws3_1 more_at (by rw [more_off (by decide)]; exact h6) (by rw [more_off (by decide)]; exact h7)).symm)
  · intro ρ X L hc hf hL hd hcl hJ
    have k7 : ρ (.tmp 7) = .agg #[.int .i64 n, .slice fa T.foes.length fc, .slice ra T.rules.length rc, .slice ba T.beats.length bc] := hJ.vals 0 7 (.agg #[.int .i64 n, .slice fa T.foes.length fc, .slice ra T.rules.length rc, .slice ba T.beats.length bc]) rfl (hd ⟨0, .data⟩ (by simp) rfl)
    have k8 : ρ (.tmp 8) = .slice xa F.length xc := hJ.vals 1 8 (.slice xa F.length xc) rfl (hd ⟨1, .data⟩ (by simp) rfl)
    have k11 : ρ (.tmp 11) = .slice (some ⟨w.heap.size + 1, 0, none⟩) n n := hJ.vals 4 11 (.slice (some ⟨w.heap.size + 1, 0, none⟩) n n) rfl (hd ⟨4, .data⟩ (by simp) rfl)
    refine does_value (v := .agg #[.int .i64 n, .slice fa T.foes.length fc, .slice ra T.rules.length rc, .slice ba T.beats.length bc, .slice xa F.length xc, .slice (some ⟨w.heap.size + 1, 0, none⟩) n n]) (w' := X) ?_ (hJ.put HOK.out rfl (by rw [ws3_off (by decide) (by decide) (by decide)]; exact hJ.wd))
    clear hd hcl hJ hL
    go_simp
  · intro ρ X L hc hf hL hd hcl hJ
    have k12 : ρ (.tmp 12) = .agg #[.int .i64 n, .slice fa T.foes.length fc, .slice ra T.rules.length rc, .slice ba T.beats.length bc, .slice xa F.length xc, .slice (some ⟨w.heap.size + 1, 0, none⟩) n n] := hJ.vals 5 12 (.agg #[.int .i64 n, .slice fa T.foes.length fc, .slice ra T.rules.length rc, .slice ba T.beats.length bc, .slice xa F.length xc, .slice (some ⟨w.heap.size + 1, 0, none⟩) n n]) rfl (hd ⟨5, .data⟩ (by simp) rfl)
    have h7 : L 7 = false := not_done (by kernel_rfl) hcl (k := 6) (by simp) hL
    have h5 : L 5 = true := hd ⟨5, .data⟩ (by simp) rfl
    have h4 : L 4 = true := by have := hcl 5 _ rfl h5 ⟨4, .data⟩ (by simp) rfl; exact this
    have hX := hJ.wd.trans (ws3_1 h4 hL h7)
    refine does_value (v := ptr (w.heap.size + 2)) (w' := w2) ?_ (hJ.put HOK.out rfl ((ws3_2 more_at (by rw [more_off (by decide)]; exact h7)).symm))
    subst hX
    clear hd hcl hJ hL h7 h5 h4
    rw [← HW2.out]
    have hs := h1s
    go_simp
  · intro ρ X L hc hf hL hd hcl hJ
    have k13 : ρ (.tmp 13) = ptr (w.heap.size + 2) := hJ.vals 6 13 (ptr (w.heap.size + 2)) rfl (hd ⟨6, .data⟩ (by simp) rfl)
    have h6 : L 6 = true := hd ⟨6, .data⟩ (by simp) rfl
    have hX := hJ.wd.trans (ws3_2 h6 hL)
    refine does_value (v := ptr (w.heap.size + 2)) (w' := w2) ?_ (hJ.put HOK.out rfl ((ws3_3 more_at).symm))
    subst hX
    clear hd hcl hJ hL h6
    go_simp
  · intro c a' w' _ hE
    exact hE.elim
  · rintro ⟨tmm, df⟩ w' hsz hdf ⟨L, hL, hJ⟩ hold
    simp only at hdf hsz
    subst hdf
    have hw4 : w2 = w' := (hJ.wd.trans (ws3_3 (hL 7 (by decide)))).symm
    subst hw4
    have h5 : tmm.getD 5 undef = ptr (w.heap.size + 2) := hJ.vals 7 5 _ rfl (hL 7 (by decide))
    have htm := frame_keep1 7 13 5 (by kernel_rfl) hsz hold
    simp only [zs, Nat.reduceLT, Nat.reduceAdd, or_true, or_self, or_false] at htm
    rw [h5] at htm
    rw [htm]
    clear htm hJ hL hold hsz HOK LB h5 HW1 HW2 HWD HX
    generalize tmm.getD 7 undef = x7
    generalize tmm.getD 8 undef = x8
    generalize tmm.getD 9 undef = x9
    generalize tmm.getD 10 undef = x10
    generalize tmm.getD 11 undef = x11
    generalize tmm.getD 12 undef = x12
    generalize tmm.getD 13 undef = x13
    clear hds h1s
    skip
    go_wp2_with fail
    go_loopw [6] (fun x wr => ∃ (k : Nat) (H : List (List Int)) (vs : List Value), k ≤ T.rules.length ∧ x = .int .i64 k ∧ Hid (Nz ⟨fa, fc, ra, rc, ba, bc, xa, xc, some ⟨w.heap.size + 1, 0, none⟩, n⟩ w.heap.size (w.heap.size + 1) (w.heap.size + 2) T F n k H vs w wr)) (fun x _ => T.rules.length - (intOf x).toNat)
    case atStart => exact ⟨0, _, _, by omega, rfl, NZ0⟩
    case round =>
      clear NZ0
      obtain ⟨k, H, vs, hk, rfl, HN⟩ := hrel
      by_cases hlk : k < T.rules.length
      · obtain ⟨x, hx⟩ := get_at hlk
        obtain ⟨gr, ofr, a2, d2, er, hgr, k0, k1, k2, hc2, hll, hI⟩ := at_R HH.out.rules hx
        have hhd := HP.out.head x (List.mem_of_getElem? hx)
        obtain ⟨m, hm⟩ := Int.eq_ofNat_of_zero_le hhd.1
        have hmn : m < n := by omega
        have HX2 := hide hx
        have HM := hide hm
        subst er
        obtain ⟨wd, HWD⟩ : ∃ wd, Hid (wr.drew = wd) := ⟨_, hide rfl⟩
        have hdr : Below wr.heap.size wr wd := by rw [← HWD.out]; exact ⟨rfl, rfl, rfl, Nat.le_refl _, fun _ _ => rfl⟩
        have HNd := hide (HN.out.go hdr)
        have kh : wd.cell? ⟨gr, ofr + k * 3 + 1, none⟩ = some (.int .i64 m) := by
          rw [hm] at k1
          exact cell_on k1 HNd.out.lo
        obtain ⟨l2, la2, lc2, hH, hv2, kr, om2⟩ := HNd.out.hv.at hmn
        have hln : l2.length ≤ 4096 := Nat.le_trans (HNd.out.gp.row_le hH) (by have := HP.out.ok.rl; omega)
        have hsz := HNd.out.hv.fx.lt
        have HADD := hide fun (w' : World) (g4 cap4 : Nat) hnew hold hg => HNd.out.hv.add (w' := w') hH hv2 (x := (k : Int)) (g4 := g4) (cap4 := cap4) hnew hold hg
        have HGP := hide (HNd.out.gp.add HX2.out rfl HM.out hmn)
        rw [show H.getD m [] = l2 by rw [List.getD_eq_getElem?_getD, hH]; rfl] at HGP
        obtain ⟨ln2, hn2⟩ : ∃ n, l2.length = n := ⟨_, rfl⟩
        rw [hn2] at hv2 om2 hln HADD kr
        have hA2 := below_new wd (.cells #[.int .i64 k] 3)
        obtain ⟨gg2, cap2, w2, hr2, hown2, hgrow2, hat2, hlt2⟩ := run_append_lies (P := Tryz.prog) (wd.alloc (.cells #[.int .i64 k] 3)) 26 26 (w.heap.size + 1 + 1) 3 iI _ 1 8 Tryz.underlying26 hiI zI0 zI1 zI2 rfl (by decide) (.slice la2 ln2 lc2) ln2 (ints l2) (owns_keep om2 fun g hg => hA2.block g (owns_lt om2 hg)) ⟨wd.heap.size, 0, none⟩ 1 1 [.int .i64 k] rfl (World.news_of_block (cs := [.int .i64 k].toArray) (t := 3) (fr := (0, 0)) (heap_alloc_new wd (.cells #[.int .i64 k] 3))) (by simp [Value.oneCell']) (by decide) (by unfold maxLen; omega) (by omega) (by simp; omega) (wd.heap.size + 1) (by simp)
        have HR2 := hide hr2
        have hold2 : ∀ k, k < wd.heap.size → Value.ownBlock (.slice la2 ln2 lc2) ≠ some k → w2.heap[k]? = wd.heap[k]? := fun k hk hn => (hgrow2.block k (by simp; omega) fun e => hn e.symm).trans (hA2.block k hk)
        have hlow : ∀ k, k ≤ w.heap.size + 1 → Value.ownBlock (.slice la2 ln2 lc2) ≠ some k := fun k hk e => by have := (om2.lt k e).1; omega
        have hneK : Value.ownBlock (.slice la2 ln2 lc2) ≠ some (w.heap.size + 2) := own_fx om2 HNd.out.wo (by decide)
        obtain ⟨w3, HW3⟩ : ∃ w3, Hid (w2.setCell ⟨w.heap.size + 1, m, none⟩ (.slice (some ⟨gg2, 0, none⟩) (ln2 + 1) cap2) = w3) := ⟨_, hide rfl⟩
        have HV3 := hide (HADD.out w2 gg2 cap2 hown2 hold2 (by rcases hat2 with h | h; exact .inl h; exact .inr (by omega)))
        rw [HW3.out] at HV3
        have HN3 : Hid (Nz ⟨fa, fc, some ⟨gr, ofr, none⟩, rc, ba, bc, xa, xc, some ⟨w.heap.size + 1, 0, none⟩, n⟩ w.heap.size (w.heap.size + 1) (w.heap.size + 2) T F n (k + 1) (H.set m (l2 ++ [(k : Int)])) (vs.set m (.slice (some ⟨gg2, 0, none⟩) (ln2 + 1) cap2)) w w3) := hide (by
          refine ⟨?_, ?_, HV3.out, HGP.out, ?_, by omega, by omega⟩
          · rw [← HW3.out]
            exact (HNd.out.bo.keep (hold2 _ HNd.out.bo.lt (hlow w.heap.size (by omega)))).keep (other_set (show w.heap.size ≠ w.heap.size + 1 by omega))
          · rw [← HW3.out]
            exact (HNd.out.wo.keep (hold2 _ HNd.out.wo.lt hneK)).keep (other_set (show w.heap.size + 2 ≠ w.heap.size + 1 by omega))
          · rw [← HW3.out]
            exact (HNd.out.lo.trans (show Below w.heap.size wd w2 from (hA2.mono HNd.out.lo.size).trans ⟨hgrow2.os, hgrow2.tape, hgrow2.output, hgrow2.size, fun k hk => hgrow2.block k (by have := HNd.out.lo.size; simp; omega) fun e => by have := (om2.lt k e.symm).1; omega⟩)).setCell (p := ⟨w.heap.size + 1, m, none⟩) (by show w.heap.size ≤ w.heap.size + 1; omega) (.slice (some ⟨gg2, 0, none⟩) (ln2 + 1) cap2))
        have kb2 : ∀ {a : Addr} {v : Value}, wd.cell? a = some v → Value.ownBlock (.slice la2 ln2 lc2) ≠ some a.block → ∀ X, X = wd ∨ X = wd.alloc (.cells #[.int .i64 k] 3) ∨ X = w2 → X.cell? a = some v := fun ha hn X hX => by
          have hlt := World.block_lt_of_cell? wd _ ha
          rcases hX with rfl | rfl | rfl
          · exact ha
          · exact cell_on ha hA2
          · exact (World.cell?_of_block (hold2 _ hlt hn)).trans ha
        have LK := hide (kb2 (HNd.out.wo.get (i := 5) rfl) hneK)
        have LT := hide (kb2 (HNd.out.bo.get (i := 2) rfl) (hlow w.heap.size (by omega)))
        have LH := hide (kb2 kh (hlow gr (by omega)))
        have LR := hide (kb2 kr (hlow (w.heap.size + 1) (by omega)))
        have q1 : w2.cell? ⟨w.heap.size + 1, m, none⟩ = some (.slice la2 ln2 lc2) := LR.out w2 (.inr (.inr rfl))
        have q2 : w2.frozen? ⟨w.heap.size + 1, m, none⟩ = false := (HNd.out.hv.fx.keep (hold2 _ HNd.out.hv.fx.lt (hlow _ (by omega)))).frz m
        have c2 := HN.out.bo.get (i := 2) rfl
        clear HNd hgrow2 hown2 hr2 hv2 hat2 hlt2 kb2 hold2 hA2 om2 hdr hlow HADD hn2 HV3 HGP hH kr kh hneK hsz hhd hx hm k0 k1 k2 hI HN
        go_upto_region 5 with fail
        clear c2
        have HCV : Hid (True) := hide trivial
        have HOK : Hid (okD (([some (21, ptr (w.heap.size + 2)), some (22, ptr (w.heap.size + 2)), some (23, .pointer (some ⟨w.heap.size + 2, 5, none⟩)), some (24, .slice (some ⟨w.heap.size + 1, 0, none⟩) n n), some (25, .pointer (some ⟨w.heap.size, 2, none⟩)), some (26, .slice (some ⟨gr, ofr, none⟩) T.rules.length rc), some (27, .int .i64 k), some (28, .pointer (some ⟨gr, ofr + k * 3, none⟩)), some (29, .pointer (some ⟨gr, ofr + k * 3 + 1, none⟩)), some (30, .int .i64 m), some (31, ptr (w.heap.size + 2)), some (32, ptr (w.heap.size + 2)), some (33, .pointer (some ⟨w.heap.size + 2, 5, none⟩)), some (34, .slice (some ⟨w.heap.size + 1, 0, none⟩) n n), some (35, .pointer (some ⟨w.heap.size, 2, none⟩)), some (36, .slice (some ⟨gr, ofr, none⟩) T.rules.length rc), some (37, .int .i64 k), some (38, .pointer (some ⟨gr, ofr + k * 3, none⟩)), some (39, .pointer (some ⟨gr, ofr + k * 3 + 1, none⟩)), some (40, .int .i64 m), some (41, .pointer (some ⟨w.heap.size + 1, m, none⟩)), some (42, .slice la2 ln2 lc2), some (43, .int .i64 k), some (44, .slice (some ⟨wd.heap.size, 0, none⟩) 1 1), some (45, .slice (some ⟨gg2, 0, none⟩) (ln2 + 1) cap2), some (46, .pointer (some ⟨w.heap.size + 1, m, none⟩)), none] : List (Option (Nat × Value))).map fun p : Option (Nat × Value) => p.map Prod.fst) [(5, ptr (w.heap.size + 2)), (2, ptr w.heap.size), (6, .int .i64 k)] = true) := hide rfl
        refine region_j Fa.NoE (Jt [some (21, ptr (w.heap.size + 2)), some (22, ptr (w.heap.size + 2)), some (23, .pointer (some ⟨w.heap.size + 2, 5, none⟩)), some (24, .slice (some ⟨w.heap.size + 1, 0, none⟩) n n), some (25, .pointer (some ⟨w.heap.size, 2, none⟩)), some (26, .slice (some ⟨gr, ofr, none⟩) T.rules.length rc), some (27, .int .i64 k), some (28, .pointer (some ⟨gr, ofr + k * 3, none⟩)), some (29, .pointer (some ⟨gr, ofr + k * 3 + 1, none⟩)), some (30, .int .i64 m), some (31, ptr (w.heap.size + 2)), some (32, ptr (w.heap.size + 2)), some (33, .pointer (some ⟨w.heap.size + 2, 5, none⟩)), some (34, .slice (some ⟨w.heap.size + 1, 0, none⟩) n n), some (35, .pointer (some ⟨w.heap.size, 2, none⟩)), some (36, .slice (some ⟨gr, ofr, none⟩) T.rules.length rc), some (37, .int .i64 k), some (38, .pointer (some ⟨gr, ofr + k * 3, none⟩)), some (39, .pointer (some ⟨gr, ofr + k * 3 + 1, none⟩)), some (40, .int .i64 m), some (41, .pointer (some ⟨w.heap.size + 1, m, none⟩)), some (42, .slice la2 ln2 lc2), some (43, .int .i64 k), some (44, .slice (some ⟨wd.heap.size, 0, none⟩) 1 1), some (45, .slice (some ⟨gg2, 0, none⟩) (ln2 + 1) cap2), some (46, .pointer (some ⟨w.heap.size + 1, m, none⟩)), none] [(5, ptr (w.heap.size + 2)), (2, ptr w.heap.size), (6, .int .i64 k)] (ws3 23 24 26 wd (wd.alloc (.cells #[.int .i64 k] 3)) w2 w3)) (by kernel_rfl) (by kernel_rfl) ?_ (steps_j ⟨?_, ?_, ?_, ?_, ?_, ?_, ?_, ?_, ?_, ?_, ?_, ?_, ?_, ?_, ?_, ?_, ?_, ?_, ?_, ?_, ?_, ?_, ?_, ?_, ?_, ?_, ?_, trivial⟩) ?_ ?_
        · exact ⟨fun p hp => by simp at hp; rcases hp with rfl | rfl | rfl <;> rfl, fun i d v _ hL => (by cases hL), HWD.out⟩
        · intro ρ X L hc hf hL hd hcl hJ
          have k5 : ρ (.tmp 5) = ptr (w.heap.size + 2) := hJ.base (5, ptr (w.heap.size + 2)) (by simp)
          refine does_value (v := ptr (w.heap.size + 2)) (w' := X) ?_ (hJ.put HOK.out rfl (by rw [ws3_off (by decide) (by decide) (by decide)]; exact hJ.wd))
          clear hd hcl hJ hL
          go_simp
        · intro ρ X L hc hf hL hd hcl hJ
          have k21 : ρ (.tmp 21) = ptr (w.heap.size + 2) := hJ.vals 0 21 (ptr (w.heap.size + 2)) rfl (hd ⟨0, .data⟩ (by simp) rfl)
          refine does_value (v := ptr (w.heap.size + 2)) (w' := X) ?_ (hJ.put HOK.out rfl (by rw [ws3_off (by decide) (by decide) (by decide)]; exact hJ.wd))
          clear hd hcl hJ hL
          go_simp
        · intro ρ X L hc hf hL hd hcl hJ
          have k22 : ρ (.tmp 22) = ptr (w.heap.size + 2) := hJ.vals 1 22 (ptr (w.heap.size + 2)) rfl (hd ⟨1, .data⟩ (by simp) rfl)
          refine does_value (v := .pointer (some ⟨w.heap.size + 2, 5, none⟩)) (w' := X) ?_ (hJ.put HOK.out rfl (by rw [ws3_off (by decide) (by decide) (by decide)]; exact hJ.wd))
          clear hd hcl hJ hL
          go_simp
        · intro ρ X L hc hf hL hd hcl hJ
          have k23 : ρ (.tmp 23) = .pointer (some ⟨w.heap.size + 2, 5, none⟩) := hJ.vals 2 23 (.pointer (some ⟨w.heap.size + 2, 5, none⟩)) rfl (hd ⟨2, .data⟩ (by simp) rfl)
          have hst : L 26 = false := not_done (by kernel_rfl) hcl (k := 3) (by simp) hL
          have hx := LK.out X (ws3_in hJ.wd hst)
          clear hst
          refine does_value (v := .slice (some ⟨w.heap.size + 1, 0, none⟩) n n) (w' := X) ?_ (hJ.put HOK.out rfl (by rw [ws3_off (by decide) (by decide) (by decide)]; exact hJ.wd))
          clear hd hcl hJ hL
          go_simp
        · intro ρ X L hc hf hL hd hcl hJ
          have k2 : ρ (.tmp 2) = ptr w.heap.size := hJ.base (2, ptr w.heap.size) (by simp)
          refine does_value (v := .pointer (some ⟨w.heap.size, 2, none⟩)) (w' := X) ?_ (hJ.put HOK.out rfl (by rw [ws3_off (by decide) (by decide) (by decide)]; exact hJ.wd))
          clear hd hcl hJ hL
          go_simp
        · intro ρ X L hc hf hL hd hcl hJ
          have k25 : ρ (.tmp 25) = .pointer (some ⟨w.heap.size, 2, none⟩) := hJ.vals 4 25 (.pointer (some ⟨w.heap.size, 2, none⟩)) rfl (hd ⟨4, .data⟩ (by simp) rfl)
          have hst : L 26 = false := not_done (by kernel_rfl) hcl (k := 5) (by simp) hL
          have hx := LT.out X (ws3_in hJ.wd hst)
          clear hst
          refine does_value (v := .slice (some ⟨gr, ofr, none⟩) T.rules.length rc) (w' := X) ?_ (hJ.put HOK.out rfl (by rw [ws3_off (by decide) (by decide) (by decide)]; exact hJ.wd))
          clear hd hcl hJ hL
          go_simp
        · intro ρ X L hc hf hL hd hcl hJ
          have k6 : ρ (.tmp 6) = .int .i64 k := hJ.base (6, .int .i64 k) (by simp)
          refine does_value (v := .int .i64 k) (w' := X) ?_ (hJ.put HOK.out rfl (by rw [ws3_off (by decide) (by decide) (by decide)]; exact hJ.wd))
          clear hd hcl hJ hL
          go_simp
        · intro ρ X L hc hf hL hd hcl hJ
          have k26 : ρ (.tmp 26) = .slice (some ⟨gr, ofr, none⟩) T.rules.length rc := hJ.vals 5 26 (.slice (some ⟨gr, ofr, none⟩) T.rules.length rc) rfl (hd ⟨5, .data⟩ (by simp) rfl)
          have k27 : ρ (.tmp 27) = .int .i64 k := hJ.vals 6 27 (.int .i64 k) rfl (hd ⟨6, .data⟩ (by simp) rfl)
          refine does_value (v := .pointer (some ⟨gr, ofr + k * 3, none⟩)) (w' := X) ?_ (hJ.put HOK.out rfl (by rw [ws3_off (by decide) (by decide) (by decide)]; exact hJ.wd))
          clear hd hcl hJ hL
          go_simp
        · intro ρ X L hc hf hL hd hcl hJ
          have k28 : ρ (.tmp 28) = .pointer (some ⟨gr, ofr + k * 3, none⟩) := hJ.vals 7 28 (.pointer (some ⟨gr, ofr + k * 3, none⟩)) rfl (hd ⟨7, .data⟩ (by simp) rfl)
          refine does_value (v := .pointer (some ⟨gr, ofr + k * 3 + 1, none⟩)) (w' := X) ?_ (hJ.put HOK.out rfl (by rw [ws3_off (by decide) (by decide) (by decide)]; exact hJ.wd))
          clear hd hcl hJ hL
          go_simp
        · intro ρ X L hc hf hL hd hcl hJ
          have k29 : ρ (.tmp 29) = .pointer (some ⟨gr, ofr + k * 3 + 1, none⟩) := hJ.vals 8 29 (.pointer (some ⟨gr, ofr + k * 3 + 1, none⟩)) rfl (hd ⟨8, .data⟩ (by simp) rfl)
          have hst : L 26 = false := not_done (by kernel_rfl) hcl (k := 9) (by simp) hL
          have hx := LH.out X (ws3_in hJ.wd hst)
          clear hst
          refine does_value (v := .int .i64 m) (w' := X) ?_ (hJ.put HOK.out rfl (by rw [ws3_off (by decide) (by decide) (by decide)]; exact hJ.wd))
          clear hd hcl hJ hL
          go_simp
        · intro ρ X L hc hf hL hd hcl hJ
          have k5 : ρ (.tmp 5) = ptr (w.heap.size + 2) := hJ.base (5, ptr (w.heap.size + 2)) (by simp)
          refine does_value (v := ptr (w.heap.size + 2)) (w' := X) ?_ (hJ.put HOK.out rfl (by rw [ws3_off (by decide) (by decide) (by decide)]; exact hJ.wd))
          clear hd hcl hJ hL
          go_simp
        · intro ρ X L hc hf hL hd hcl hJ
          have k31 : ρ (.tmp 31) = ptr (w.heap.size + 2) := hJ.vals 10 31 (ptr (w.heap.size + 2)) rfl (hd ⟨10, .data⟩ (by simp) rfl)
          refine does_value (v := ptr (w.heap.size + 2)) (w' := X) ?_ (hJ.put HOK.out rfl (by rw [ws3_off (by decide) (by decide) (by decide)]; exact hJ.wd))
          clear hd hcl hJ hL
          go_simp
        · intro ρ X L hc hf hL hd hcl hJ
          have k32 : ρ (.tmp 32) = ptr (w.heap.size + 2) := hJ.vals 11 32 (ptr (w.heap.size + 2)) rfl (hd ⟨11, .data⟩ (by simp) rfl)
          refine does_value (v := .pointer (some ⟨w.heap.size + 2, 5, none⟩)) (w' := X) ?_ (hJ.put HOK.out rfl (by rw [ws3_off (by decide) (by decide) (by decide)]; exact hJ.wd))
          clear hd hcl hJ hL
          go_simp
        · intro ρ X L hc hf hL hd hcl hJ
          have k33 : ρ (.tmp 33) = .pointer (some ⟨w.heap.size + 2, 5, none⟩) := hJ.vals 12 33 (.pointer (some ⟨w.heap.size + 2, 5, none⟩)) rfl (hd ⟨12, .data⟩ (by simp) rfl)
          have hst : L 26 = false := not_done (by kernel_rfl) hcl (k := 13) (by simp) hL
          have hx := LK.out X (ws3_in hJ.wd hst)
          clear hst
          refine does_value (v := .slice (some ⟨w.heap.size + 1, 0, none⟩) n n) (w' := X) ?_ (hJ.put HOK.out rfl (by rw [ws3_off (by decide) (by decide) (by decide)]; exact hJ.wd))
          clear hd hcl hJ hL
          go_simp
        · intro ρ X L hc hf hL hd hcl hJ
          have k2 : ρ (.tmp 2) = ptr w.heap.size := hJ.base (2, ptr w.heap.size) (by simp)
          refine does_value (v := .pointer (some ⟨w.heap.size, 2, none⟩)) (w' := X) ?_ (hJ.put HOK.out rfl (by rw [ws3_off (by decide) (by decide) (by decide)]; exact hJ.wd))
          clear hd hcl hJ hL
          go_simp
        · intro ρ X L hc hf hL hd hcl hJ
          have k35 : ρ (.tmp 35) = .pointer (some ⟨w.heap.size, 2, none⟩) := hJ.vals 14 35 (.pointer (some ⟨w.heap.size, 2, none⟩)) rfl (hd ⟨14, .data⟩ (by simp) rfl)
          have hst : L 26 = false := not_done (by kernel_rfl) hcl (k := 15) (by simp) hL
          have hx := LT.out X (ws3_in hJ.wd hst)
          clear hst
          refine does_value (v := .slice (some ⟨gr, ofr, none⟩) T.rules.length rc) (w' := X) ?_ (hJ.put HOK.out rfl (by rw [ws3_off (by decide) (by decide) (by decide)]; exact hJ.wd))
          clear hd hcl hJ hL
          go_simp
        · intro ρ X L hc hf hL hd hcl hJ
          have k6 : ρ (.tmp 6) = .int .i64 k := hJ.base (6, .int .i64 k) (by simp)
          refine does_value (v := .int .i64 k) (w' := X) ?_ (hJ.put HOK.out rfl (by rw [ws3_off (by decide) (by decide) (by decide)]; exact hJ.wd))
          clear hd hcl hJ hL
          go_simp
        · intro ρ X L hc hf hL hd hcl hJ
          have k36 : ρ (.tmp 36) = .slice (some ⟨gr, ofr, none⟩) T.rules.length rc := hJ.vals 15 36 (.slice (some ⟨gr, ofr, none⟩) T.rules.length rc) rfl (hd ⟨15, .data⟩ (by simp) rfl)
          have k37 : ρ (.tmp 37) = .int .i64 k := hJ.vals 16 37 (.int .i64 k) rfl (hd ⟨16, .data⟩ (by simp) rfl)
          refine does_value (v := .pointer (some ⟨gr, ofr + k * 3, none⟩)) (w' := X) ?_ (hJ.put HOK.out rfl (by rw [ws3_off (by decide) (by decide) (by decide)]; exact hJ.wd))
          clear hd hcl hJ hL
          go_simp
        · intro ρ X L hc hf hL hd hcl hJ
          have k38 : ρ (.tmp 38) = .pointer (some ⟨gr, ofr + k * 3, none⟩) := hJ.vals 17 38 (.pointer (some ⟨gr, ofr + k * 3, none⟩)) rfl (hd ⟨17, .data⟩ (by simp) rfl)
          refine does_value (v := .pointer (some ⟨gr, ofr + k * 3 + 1, none⟩)) (w' := X) ?_ (hJ.put HOK.out rfl (by rw [ws3_off (by decide) (by decide) (by decide)]; exact hJ.wd))
          clear hd hcl hJ hL
          go_simp
        · intro ρ X L hc hf hL hd hcl hJ
          have k39 : ρ (.tmp 39) = .pointer (some ⟨gr, ofr + k * 3 + 1, none⟩) := hJ.vals 18 39 (.pointer (some ⟨gr, ofr + k * 3 + 1, none⟩)) rfl (hd ⟨18, .data⟩ (by simp) rfl)
          have hst : L 26 = false := not_done (by kernel_rfl) hcl (k := 19) (by simp) hL
          have hx := LH.out X (ws3_in hJ.wd hst)
          clear hst
          refine does_value (v := .int .i64 m) (w' := X) ?_ (hJ.put HOK.out rfl (by rw [ws3_off (by decide) (by decide) (by decide)]; exact hJ.wd))
          clear hd hcl hJ hL
          go_simp
        · intro ρ X L hc hf hL hd hcl hJ
          have k34 : ρ (.tmp 34) = .slice (some ⟨w.heap.size + 1, 0, none⟩) n n := hJ.vals 13 34 (.slice (some ⟨w.heap.size + 1, 0, none⟩) n n) rfl (hd ⟨13, .data⟩ (by simp) rfl)
          have k40 : ρ (.tmp 40) = .int .i64 m := hJ.vals 19 40 (.int .i64 m) rfl (hd ⟨19, .data⟩ (by simp) rfl)
          refine does_value (v := .pointer (some ⟨w.heap.size + 1, m, none⟩)) (w' := X) ?_ (hJ.put HOK.out rfl (by rw [ws3_off (by decide) (by decide) (by decide)]; exact hJ.wd))
          clear hd hcl hJ hL
          go_simp
        · intro ρ X L hc hf hL hd hcl hJ
          have k41 : ρ (.tmp 41) = .pointer (some ⟨w.heap.size + 1, m, none⟩) := hJ.vals 20 41 (.pointer (some ⟨w.heap.size + 1, m, none⟩)) rfl (hd ⟨20, .data⟩ (by simp) rfl)
          have hst : L 26 = false := not_done (by kernel_rfl) hcl (k := 21) (by simp) hL
          have hx := LR.out X (ws3_in hJ.wd hst)
          clear hst
          refine does_value (v := .slice la2 ln2 lc2) (w' := X) ?_ (hJ.put HOK.out rfl (by rw [ws3_off (by decide) (by decide) (by decide)]; exact hJ.wd))
          clear hd hcl hJ hL
          go_simp
        · intro ρ X L hc hf hL hd hcl hJ
          have k6 : ρ (.tmp 6) = .int .i64 k := hJ.base (6, .int .i64 k) (by simp)
          refine does_value (v := .int .i64 k) (w' := X) ?_ (hJ.put HOK.out rfl (by rw [ws3_off (by decide) (by decide) (by decide)]; exact hJ.wd))
          clear hd hcl hJ hL
          go_simp
        · intro ρ X L hc hf hL hd hcl hJ
          have k43 : ρ (.tmp 43) = .int .i64 k := hJ.vals 22 43 (.int .i64 k) rfl (hd ⟨22, .data⟩ (by simp) rfl)
          have hap : L 24 = false := by cases e : L 24 with | false => rfl | true => (have := hcl 24 _ rfl e ⟨23, .data⟩ (by simp) rfl; rw [show (⟨23, .data⟩ : Edge).on = 23 from rfl] at this; rw [hL] at this; cases this)
          have hst : L 26 = false := not_done (by kernel_rfl) hcl (k := 23) (by simp) hL
          have hX := hJ.wd.trans (ws3_0 hL hap hst)
          refine does_value (v := .slice (some ⟨wd.heap.size, 0, none⟩) 1 1) (w' := wd.alloc (.cells #[.int .i64 k] 3)) ?_ (hJ.put HOK.out rfl ((ws3_1 more_at (by rw [more_off (by decide)]; exact hap) (by rw [more_off (by decide)]; exact hst)).symm))
          subst hX
          clear hd hcl hJ hL hap hst
          go_simp
        · intro ρ X L hc hf hL hd hcl hJ
          have k42 : ρ (.tmp 42) = .slice la2 ln2 lc2 := hJ.vals 21 42 (.slice la2 ln2 lc2) rfl (hd ⟨21, .data⟩ (by simp) rfl)
          have k44 : ρ (.tmp 44) = .slice (some ⟨wd.heap.size, 0, none⟩) 1 1 := hJ.vals 23 44 (.slice (some ⟨wd.heap.size, 0, none⟩) 1 1) rfl (hd ⟨23, .data⟩ (by simp) rfl)
          have hbs : L 23 = true := hd ⟨23, .data⟩ (by simp) rfl
          have hst : L 26 = false := not_done (by kernel_rfl) hcl (k := 24) (by simp) hL
          have hX := hJ.wd.trans (ws3_1 hbs hL hst)
          refine does_app _ _ 26 rfl k42 k44 (u := .slice (some ⟨gg2, 0, none⟩) (ln2 + 1) cap2) (w' := w2) (by rw [hX]; exact HR2.out) (hJ.put HOK.out rfl ((ws3_2 more_at (by rw [more_off (by decide)]; exact hst)).symm))
        · intro ρ X L hc hf hL hd hcl hJ
          have k24 : ρ (.tmp 24) = .slice (some ⟨w.heap.size + 1, 0, none⟩) n n := hJ.vals 3 24 (.slice (some ⟨w.heap.size + 1, 0, none⟩) n n) rfl (hd ⟨3, .data⟩ (by simp) rfl)
          have k30 : ρ (.tmp 30) = .int .i64 m := hJ.vals 9 30 (.int .i64 m) rfl (hd ⟨9, .data⟩ (by simp) rfl)
          refine does_value (v := .pointer (some ⟨w.heap.size + 1, m, none⟩)) (w' := X) ?_ (hJ.put HOK.out rfl (by rw [ws3_off (by decide) (by decide) (by decide)]; exact hJ.wd))
          clear hd hcl hJ hL
          go_simp
        · intro ρ X L hc hf hL hd hcl hJ
          have k46 : ρ (.tmp 46) = .pointer (some ⟨w.heap.size + 1, m, none⟩) := hJ.vals 25 46 (.pointer (some ⟨w.heap.size + 1, m, none⟩)) rfl (hd ⟨25, .data⟩ (by simp) rfl)
          have k45 : ρ (.tmp 45) = .slice (some ⟨gg2, 0, none⟩) (ln2 + 1) cap2 := hJ.vals 24 45 (.slice (some ⟨gg2, 0, none⟩) (ln2 + 1) cap2) rfl (hd ⟨24, .data⟩ (by simp) rfl)
          have hap : L 24 = true := hd ⟨24, .data⟩ (by simp) rfl
          have hX := hJ.wd.trans (ws3_2 hap hL)
          refine does_skip (w' := w3) ?_ (hJ.last rfl ((ws3_3 more_at).symm))
          subst hX
          clear hd hcl hJ hL hap
          rw [← HW3.out]
          go_simp
        · intro c a' w' _ hE
          exact hE.elim
        · rintro ⟨tmm, df⟩ w' hsz hdf ⟨L, hL, hJ⟩ hold
          simp only at hdf hsz
          subst hdf
          have hw4 : w3 = w' := (hJ.wd.trans (ws3_3 (hL 26 (by decide)))).symm
          subst hw4
          have htm := frame_keep 21 46 (by kernel_rfl) hsz hold
          simp only [zr, Nat.reduceLT, Nat.reduceAdd, true_or, or_true, or_self, if_true, if_false] at htm
          rw [htm]
          clear htm hJ hL hold hsz HOK HR2 HW3 LK LT LH LR q1 q2 HWD
          generalize tmm.getD 21 undef = x21
          generalize tmm.getD 22 undef = x22
          generalize tmm.getD 23 undef = x23
          generalize tmm.getD 24 undef = x24
          generalize tmm.getD 25 undef = x25
          generalize tmm.getD 26 undef = x26
          generalize tmm.getD 27 undef = x27
          generalize tmm.getD 28 undef = x28
          generalize tmm.getD 29 undef = x29
          generalize tmm.getD 30 undef = x30
          generalize tmm.getD 31 undef = x31
          generalize tmm.getD 32 undef = x32
          generalize tmm.getD 33 undef = x33
          generalize tmm.getD 34 undef = x34
          generalize tmm.getD 35 undef = x35
          generalize tmm.getD 36 undef = x36
          generalize tmm.getD 37 undef = x37
          generalize tmm.getD 38 undef = x38
          generalize tmm.getD 39 undef = x39
          generalize tmm.getD 40 undef = x40
          generalize tmm.getD 41 undef = x41
          generalize tmm.getD 42 undef = x42
          generalize tmm.getD 43 undef = x43
          generalize tmm.getD 44 undef = x44
          generalize tmm.getD 45 undef = x45
          generalize tmm.getD 46 undef = x46
          go_wp2_with fail
          go_roundw
          case rel => exact ⟨k + 1, _, _, by omega, by go_num, HN3⟩
          case measure => simp [intOf]; omega
      · have hkn : k = T.rules.length := by omega
        rw [hkn] at HN
        have c2 := HN.out.bo.get (i := 2) rfl
        have HE : Hid (Hv (w.heap.size + 1) n (grp T kA n) vs wr) := hide (by
          have hg := HN.out.gp.done
          have hv := HN.out.hv
          rw [hg] at hv
          exact hv)
        have HE2 := hide HN.out.wo
        have HLo := hide HN.out.lo
        clear HN hkn hk
        go_wp2_with fail
        go_ret
        exact ⟨rfl, HE2.out, ⟨_, HE.out⟩, HLo.out⟩
theorem wd_own {w' : World} {T : Th} {F : List Int} {n K hb : Nat} {fa ra ba xa : Option Addr} {fc rc bc xc : Nat} {vs : List Value} (hp : Pf T F n) (h : TA w'.heap.size w' T fa fc ra rc ba bc) (hF : Ints w'.heap.size w' F (.slice xa F.length xc)) (hw : Fx K 103 (wdL ⟨fa, fc, ra, rc, ba, bc, xa, xc, some ⟨hb, 0, none⟩, n⟩ T F n) w') (hv : Hv hb n (grp T kA n) vs w') : Wd K ⟨fa, fc, ra, rc, ba, bc, xa, xc, some ⟨hb, 0, none⟩, n⟩ T F n w' := by
  refine ⟨hp, hw, h, hF, lists_rows hv (Nat.le_refl _) hp.n4 fun l hl => ?_⟩
  obtain ⟨z, _, rfl⟩ := List.mem_map.1 hl
  exact Nat.le_trans forL_len hp.ok.rl
theorem newWorld_any {w : World} {T : Th} {F : List Int} {n : Nat} {fa ra ba xa : Option Addr} {fc rc bc xc : Nat} (hp : Pf T F n) (h : TA w.heap.size w T fa fc ra rc ba bc) (hF : Ints w.heap.size w F (.slice xa F.length xc)) :
    Calls Tryz.prog 43 #[tv T fa fc ra rc ba bc, .slice xa F.length xc] w fun e w' => ∃ K, e = .returned (ptr K) ∧ (∃ A, Wd K A T F n w') ∧ Below w.heap.size w w' := by
  refine (newWorld_own hp h hF).mono ?_
  rintro _ w' ⟨vs, rfl, hw, hv, hb⟩
  exact ⟨_, rfl, ⟨_, wd_own hp (TR.go hb h) (Ints.go hb hF) hw hv⟩, hb⟩
end Go.Proofs.YtcobmbclhhimjaaGreat.Rf
