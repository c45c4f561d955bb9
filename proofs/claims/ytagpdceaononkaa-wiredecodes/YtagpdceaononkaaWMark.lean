/- The reader: mark. -/
import Derived.Test.YtagpdceaononkaaWRd
namespace Go.Proofs.Ytagpdceaononkaa
open Go.RowKit

theorem oct_q {zs : List Int} {a b z : Int} {p q : Nat} (h : octM zs a b p = .ok (z, q)) : q = p + 1 := (oct_iff.1 h).1.1
set_option maxRecDepth 100000 in
set_option maxHeartbeats 12800000 in
theorem mark_any {R : Nat} {ba : Option Addr} {bc : Nat} {zs : List Int} {w : World} (h : Rd R ba bc zs 0 w) :
    Calls Try.prog 39 #[ptr R] w fun e w' => Fr (fun k => k = R) w w' ∧ ((markM zs 4 0 = .ok () ∧ e = .returned (.tuple #[]) ∧ Rd R ba bc zs 4 w') ∨ ∃ c p, markM zs 4 0 = .error (c, p) ∧ e = .panicked [flt c p]) := by
  obtain ⟨o, ho⟩ : ∃ o, markM zs 4 0 = o := ⟨_, rfl⟩
  rw [ho]
  have HO : Hid (markM zs (4 - 0) 0 = o) := hide ho
  have HH := hide h
  clear h ho
  go_enter Try.func39, Try.ntmps39
  go_wp2_with fail
  go_loopw [3] (fun x wr => ∃ (k : Nat), k ≤ 4 ∧ x = .int .i64 k ∧ Hid (Rd R ba bc zs k wr) ∧ Hid (markM zs (4 - k) k = o) ∧ Hid (Fr (fun k => k = R) w wr)) (fun _ wr => 4 - atOf R wr)
  case atStart => exact ⟨0, by omega, rfl, HH, HO, hide (Fr.refl _ _)⟩
  case round =>
    clear HH HO
    obtain ⟨k, hk, rfl, HD, HK, HF⟩ := hrel
    by_cases hlt : k < 4
    · have HS : Hid ((octM zs (markB.getD k 0) (markB.getD k 0) k >>= fun _ => markM zs (4 - (k + 1)) (k + 1)) = o) := hide (by have := HK.out; rw [show 4 - k = (4 - (k + 1)) + 1 by omega, markM] at this; exact this)
      clear HK
      have hcs : k = 0 ∨ k = 1 ∨ k = 2 ∨ k = 3 := by omega
      rcases hcs with rfl | rfl | rfl | rfl
      · have CO := hide (octet_any (HD.out.below (below_drewN wr 1)) (a := 108) (b := 108))
        have hwm : IntKind.i64.wrap 108 = 108 := by decide
        have HS2 : Hid ((octM zs 108 108 0 >>= fun _ => markM zs (4 - (0 + 1)) (0 + 1)) = o) := HS
        have hby : (({ data := #[108, 120, 100, 1] } : ByteArray)[0]'(by decide)).toNat = 108 := by decide
        clear HS
        go_upto_region 3 with fail
        go_region_with (go_at_call 47; refine CO.out.mono ?_; intro e w2 hE; rcases hE.split with ⟨z, q, v, e1, rfl, e2, e3, e4⟩ | ⟨c, p', e1, rfl, e4⟩; rotate_left 1; exact ⟨rfl, HF.out.trans ((Fr.of_below (below_drewN wr 1)).trans e4), .inr ⟨_, _, bind_no HS2.out e1, rfl⟩⟩; have hq := oct_q e1; subst hq; have HN := hide (bind_ok HS2.out e1); have H3 := hide e3; have H4 := hide (HF.out.trans ((Fr.of_below (below_drewN wr 1)).trans e4)); clear hE e1 e3 e4 e2)
        all_goals
          go_wp2_with fail
          go_roundw
          case rel => exact ⟨0 + 1, by omega, by go_num, H3, HN, H4⟩
          case measure => rw [HD.out.atOf, H3.out.atOf]; omega
      · have CO := hide (octet_any (HD.out.below (below_drewN wr 1)) (a := 120) (b := 120))
        have hwm : IntKind.i64.wrap 120 = 120 := by decide
        have HS2 : Hid ((octM zs 120 120 1 >>= fun _ => markM zs (4 - (1 + 1)) (1 + 1)) = o) := HS
        have hby : (({ data := #[108, 120, 100, 1] } : ByteArray)[1]'(by decide)).toNat = 120 := by decide
        clear HS
        go_upto_region 3 with fail
        go_region_with (go_at_call 47; refine CO.out.mono ?_; intro e w2 hE; rcases hE.split with ⟨z, q, v, e1, rfl, e2, e3, e4⟩ | ⟨c, p', e1, rfl, e4⟩; rotate_left 1; exact ⟨rfl, HF.out.trans ((Fr.of_below (below_drewN wr 1)).trans e4), .inr ⟨_, _, bind_no HS2.out e1, rfl⟩⟩; have hq := oct_q e1; subst hq; have HN := hide (bind_ok HS2.out e1); have H3 := hide e3; have H4 := hide (HF.out.trans ((Fr.of_below (below_drewN wr 1)).trans e4)); clear hE e1 e3 e4 e2)
        all_goals
          go_wp2_with fail
          go_roundw
          case rel => exact ⟨1 + 1, by omega, by go_num, H3, HN, H4⟩
          case measure => rw [HD.out.atOf, H3.out.atOf]; omega
      · have CO := hide (octet_any (HD.out.below (below_drewN wr 1)) (a := 100) (b := 100))
        have hwm : IntKind.i64.wrap 100 = 100 := by decide
        have HS2 : Hid ((octM zs 100 100 2 >>= fun _ => markM zs (4 - (2 + 1)) (2 + 1)) = o) := HS
        have hby : (({ data := #[108, 120, 100, 1] } : ByteArray)[2]'(by decide)).toNat = 100 := by decide
        clear HS
        go_upto_region 3 with fail
        go_region_with (go_at_call 47; refine CO.out.mono ?_; intro e w2 hE; rcases hE.split with ⟨z, q, v, e1, rfl, e2, e3, e4⟩ | ⟨c, p', e1, rfl, e4⟩; rotate_left 1; exact ⟨rfl, HF.out.trans ((Fr.of_below (below_drewN wr 1)).trans e4), .inr ⟨_, _, bind_no HS2.out e1, rfl⟩⟩; have hq := oct_q e1; subst hq; have HN := hide (bind_ok HS2.out e1); have H3 := hide e3; have H4 := hide (HF.out.trans ((Fr.of_below (below_drewN wr 1)).trans e4)); clear hE e1 e3 e4 e2)
        all_goals
          go_wp2_with fail
          go_roundw
          case rel => exact ⟨2 + 1, by omega, by go_num, H3, HN, H4⟩
          case measure => rw [HD.out.atOf, H3.out.atOf]; omega
      · have CO := hide (octet_any (HD.out.below (below_drewN wr 1)) (a := 1) (b := 1))
        have hwm : IntKind.i64.wrap 1 = 1 := by decide
        have HS2 : Hid ((octM zs 1 1 3 >>= fun _ => markM zs (4 - (3 + 1)) (3 + 1)) = o) := HS
        have hby : (({ data := #[108, 120, 100, 1] } : ByteArray)[3]'(by decide)).toNat = 1 := by decide
        clear HS
        go_upto_region 3 with fail
        go_region_with (go_at_call 47; refine CO.out.mono ?_; intro e w2 hE; rcases hE.split with ⟨z, q, v, e1, rfl, e2, e3, e4⟩ | ⟨c, p', e1, rfl, e4⟩; rotate_left 1; exact ⟨rfl, HF.out.trans ((Fr.of_below (below_drewN wr 1)).trans e4), .inr ⟨_, _, bind_no HS2.out e1, rfl⟩⟩; have hq := oct_q e1; subst hq; have HN := hide (bind_ok HS2.out e1); have H3 := hide e3; have H4 := hide (HF.out.trans ((Fr.of_below (below_drewN wr 1)).trans e4)); clear hE e1 e3 e4 e2)
        all_goals
          go_wp2_with fail
          go_roundw
          case rel => exact ⟨3 + 1, by omega, by go_num, H3, HN, H4⟩
          case measure => rw [HD.out.atOf, H3.out.atOf]; omega
    · have hk4 : k = 4 := by omega
      subst hk4
      have HE : Hid (o = .ok ()) := hide HK.out.symm
      clear HK
      go_wp2_with fail
      go_end0
      exact ⟨HF.out, .inl ⟨HE.out, rfl, HD.out⟩⟩
end Go.Proofs.Ytagpdceaononkaa
