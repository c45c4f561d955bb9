/- The reader: mark. -/
import Derived.Test.YtdmnoeooljofcaaRdl
namespace Go.Proofs.Ytdmnoeooljofcaa
open Go.RowKit

def atOf (R : Nat) (w : World) : Nat := match w.cell? ⟨R, 1, none⟩ with
  | some (.int _ z) => z.toNat
  | _ => 0
theorem Rd.atOf {R : Nat} {ba : Option Addr} {bc : Nat} {zs : List Int} {p : Nat} {w : World} (h : Rd R ba bc zs p w) : atOf R w = p := by unfold Ytdmnoeooljofcaa.atOf; rw [h.c1]; simp
theorem Rd.byte {R : Nat} {ba : Option Addr} {bc : Nat} {zs : List Int} {p k : Nat} {w : World} (h : Rd R ba bc zs p w) (hk : k < zs.length) : ∃ b off, ba = some ⟨b, off, none⟩ ∧ w.cell? ⟨b, off + k, none⟩ = some (.int .u8 (zs.getD k 0)) := by
  obtain ⟨b, off, e, hc⟩ := h.row.cells (by intro e; subst e; simp at hk)
  exact ⟨b, off, e, hc k hk⟩
set_option maxRecDepth 100000 in
set_option maxHeartbeats 12800000 in
theorem mark_any {R : Nat} {ba : Option Addr} {bc : Nat} {zs : List Int} {w : World} (h : Rd R ba bc zs 0 w) :
    Calls Try.prog 38 #[ptr R] w fun e w' => Fr (fun k => k = R) w w' ∧ ((markM zs 4 0 = .ok () ∧ e = .returned (.tuple #[]) ∧ Rd R ba bc zs 4 w') ∨ ∃ c p, markM zs 4 0 = .error (c, p) ∧ e = .panicked [flt c p]) := by
  obtain ⟨o, ho⟩ : ∃ o, markM zs 4 0 = o := ⟨_, rfl⟩
  rw [ho]
  have HO : Hid (markM zs (4 - 0) 0 = o) := hide ho
  have HH := hide h
  have hlen := h.len
  have CG := hide (fun c p X => giveUp_any (ptr R) c p X)
  clear h ho
  go_enter Try.func38, Try.ntmps38
  go_wp2_with fail
  go_loopw [2] (fun _ wr => ∃ (k : Nat), k ≤ 4 ∧ Hid (Rd R ba bc zs k wr) ∧ Hid (markM zs (4 - k) k = o) ∧ Hid (Fr (fun k => k = R) w wr)) (fun _ wr => 4 - atOf R wr)
  case atStart => exact ⟨0, by omega, HH, HO, hide (Fr.refl _ _)⟩
  case round =>
    clear HH HO
    obtain ⟨k, hk, HD, HK, HF⟩ := hrel
    have c0 := HD.out.c0
    have c1 := HD.out.c1
    have hpos := HD.out.pos
    by_cases hlt : k < 4
    · have HS : Hid ((if zs.length ≤ k then .error (8, (k : Int)) else if zs.getD k 0 ≠ markB.getD k 0 then .error (1, (k : Int)) else markM zs (4 - (k + 1)) (k + 1)) = o) := hide (by have := HK.out; rw [show 4 - k = (4 - (k + 1)) + 1 by omega, markM] at this; exact this)
      clear HK
      by_cases hl : zs.length ≤ k
      · have HE : Hid (o = .error (8, (k : Int))) := hide (by have := HS.out; rw [if_pos hl] at this; exact this.symm)
        obtain ⟨L, hL⟩ : ∃ L, zs.length = L := ⟨_, rfl⟩
        have HL := hide hL
        rw [hL] at c0 hl hpos hlen
        have hkL : L = k := by omega
        subst hkL
        clear HS hl hL
        go_wp2_with fail
        go_quiet (fail)
        go_wp2_with (go_at_call 43; refine (CG.out _ _ _).mono ?_; rintro _ w1 ⟨rfl, hw⟩; subst w1)
        exact ⟨rfl, HF.out.trans (Fr.of_below (below_drewN wr _)), .inr ⟨_, _, HE.out, rfl⟩⟩
      · have HS2 := HS
        rw [if_neg hl] at HS2
        have hbb : ((k : Int) == (zs.length : Int)) = false := by simp; omega
        have hkn : ¬ k = zs.length := by omega
        have hkl : k < zs.length := by omega
        obtain ⟨b, off, rfl, kc⟩ := HD.out.byte (k := k) hkl
        have kfr := HD.out.bx.frz 1
        have HG : Hid (∀ nq, Rd R (some ⟨b, off, none⟩) bc zs (k + 1) ((wr.drewN nq).setCell ⟨R, 1, none⟩ (.int .i64 ((k : Int) + 1)))) := hide fun nq => (HD.out.below (below_drewN wr nq)).go (q := k + 1) (by omega)
        clear HS hl
        generalize zs.getD k 0 = x at *
        have hcs : k = 0 ∨ k = 1 ∨ k = 2 ∨ k = 3 := by omega
        rcases hcs with rfl | rfl | rfl | rfl
        · rw [Nat.add_zero] at kc
          by_cases hx : x = 116
          · have HN : Hid (markM zs (4 - (0 + 1)) (0 + 1) = o) := hide (by have := HS2.out; rw [if_neg (by rw [hx]; decide)] at this; exact this)
            subst hx
            clear HS2
            go_wp2_with fail
            go_quiet (fail)
            go_wp2_with fail
            go_quiet (fail)
            go_wp2_with fail
            go_roundw
            case rel => exact ⟨0 + 1, by omega, hide (HG.out _), HN, hide ((HF.out.trans (Fr.of_below (below_drewN wr _))).trans (.setCell ⟨R, 1, none⟩ _ rfl))⟩
            case measure => rw [HD.out.atOf]; first | (rw [(HG.out _).atOf]; omega) | (show 4 - atOf R _ < 4 - 0; erw [(HG.out _).atOf]; omega)
          · have HE : Hid (o = .error (1, (0 : Int))) := hide (by have := HS2.out; rw [if_pos (show x ≠ markB.getD 0 0 from hx)] at this; exact this.symm)
            have hxb : (x != 116) = true := by simpa using hx
            have hby : (({ data := #[116, 104, 121, 1] } : ByteArray)[0]'(by decide)).toNat = 116 := by decide
            clear HS2
            go_wp2_with fail
            go_quiet (fail)
            go_wp2_with fail
            go_quiet (fail)
            go_wp2_with (go_at_call 43; refine (CG.out _ _ _).mono ?_; rintro _ w1 ⟨rfl, hw⟩; subst w1)
            exact ⟨rfl, HF.out.trans (Fr.of_below (below_drewN wr _)), .inr ⟨_, _, HE.out, rfl⟩⟩
        · by_cases hx : x = 104
          · have HN : Hid (markM zs (4 - (1 + 1)) (1 + 1) = o) := hide (by have := HS2.out; rw [if_neg (by rw [hx]; decide)] at this; exact this)
            subst hx
            clear HS2
            go_wp2_with fail
            go_quiet (fail)
            go_wp2_with fail
            go_quiet (fail)
            go_wp2_with fail
            go_roundw
            case rel => exact ⟨1 + 1, by omega, hide (HG.out _), HN, hide ((HF.out.trans (Fr.of_below (below_drewN wr _))).trans (.setCell ⟨R, 1, none⟩ _ rfl))⟩
            case measure => rw [HD.out.atOf]; first | (rw [(HG.out _).atOf]; omega) | (show 4 - atOf R _ < 4 - 1; erw [(HG.out _).atOf]; omega)
          · have HE : Hid (o = .error (1, (1 : Int))) := hide (by have := HS2.out; rw [if_pos (show x ≠ markB.getD 1 0 from hx)] at this; exact this.symm)
            have hxb : (x != 104) = true := by simpa using hx
            have hby : (({ data := #[116, 104, 121, 1] } : ByteArray)[1]'(by decide)).toNat = 104 := by decide
            clear HS2
            go_wp2_with fail
            go_quiet (fail)
            go_wp2_with fail
            go_quiet (fail)
            go_wp2_with (go_at_call 43; refine (CG.out _ _ _).mono ?_; rintro _ w1 ⟨rfl, hw⟩; subst w1)
            exact ⟨rfl, HF.out.trans (Fr.of_below (below_drewN wr _)), .inr ⟨_, _, HE.out, rfl⟩⟩
        · by_cases hx : x = 121
          · have HN : Hid (markM zs (4 - (2 + 1)) (2 + 1) = o) := hide (by have := HS2.out; rw [if_neg (by rw [hx]; decide)] at this; exact this)
            subst hx
            clear HS2
            go_wp2_with fail
            go_quiet (fail)
            go_wp2_with fail
            go_quiet (fail)
            go_wp2_with fail
            go_roundw
            case rel => exact ⟨2 + 1, by omega, hide (HG.out _), HN, hide ((HF.out.trans (Fr.of_below (below_drewN wr _))).trans (.setCell ⟨R, 1, none⟩ _ rfl))⟩
            case measure => rw [HD.out.atOf]; first | (rw [(HG.out _).atOf]; omega) | (show 4 - atOf R _ < 4 - 2; erw [(HG.out _).atOf]; omega)
          · have HE : Hid (o = .error (1, (2 : Int))) := hide (by have := HS2.out; rw [if_pos (show x ≠ markB.getD 2 0 from hx)] at this; exact this.symm)
            have hxb : (x != 121) = true := by simpa using hx
            have hby : (({ data := #[116, 104, 121, 1] } : ByteArray)[2]'(by decide)).toNat = 121 := by decide
            clear HS2
            go_wp2_with fail
            go_quiet (fail)
            go_wp2_with fail
            go_quiet (fail)
            go_wp2_with (go_at_call 43; refine (CG.out _ _ _).mono ?_; rintro _ w1 ⟨rfl, hw⟩; subst w1)
            exact ⟨rfl, HF.out.trans (Fr.of_below (below_drewN wr _)), .inr ⟨_, _, HE.out, rfl⟩⟩
        · by_cases hx : x = 1
          · have HN : Hid (markM zs (4 - (3 + 1)) (3 + 1) = o) := hide (by have := HS2.out; rw [if_neg (by rw [hx]; decide)] at this; exact this)
            subst hx
            clear HS2
            go_wp2_with fail
            go_quiet (fail)
            go_wp2_with fail
            go_quiet (fail)
            go_wp2_with fail
            go_roundw
            case rel => exact ⟨3 + 1, by omega, hide (HG.out _), HN, hide ((HF.out.trans (Fr.of_below (below_drewN wr _))).trans (.setCell ⟨R, 1, none⟩ _ rfl))⟩
            case measure => rw [HD.out.atOf]; first | (rw [(HG.out _).atOf]; omega) | (show 4 - atOf R _ < 4 - 3; erw [(HG.out _).atOf]; omega)
          · have HE : Hid (o = .error (1, (3 : Int))) := hide (by have := HS2.out; rw [if_pos (show x ≠ markB.getD 3 0 from hx)] at this; exact this.symm)
            have hxb : (x != 1) = true := by simpa using hx
            have hby : (({ data := #[116, 104, 121, 1] } : ByteArray)[3]'(by decide)).toNat = 1 := by decide
            clear HS2
            go_wp2_with fail
            go_quiet (fail)
            go_wp2_with fail
            go_quiet (fail)
            go_wp2_with (go_at_call 43; refine (CG.out _ _ _).mono ?_; rintro _ w1 ⟨rfl, hw⟩; subst w1)
            exact ⟨rfl, HF.out.trans (Fr.of_below (below_drewN wr _)), .inr ⟨_, _, HE.out, rfl⟩⟩
    · have hk4 : k = 4 := by omega
      subst hk4
      have HE : Hid (o = .ok ()) := hide HK.out.symm
      clear HK
      go_wp2_with fail
      go_end0
      exact ⟨HF.out, .inl ⟨HE.out, rfl, HD.out⟩⟩
end Go.Proofs.Ytdmnoeooljofcaa
