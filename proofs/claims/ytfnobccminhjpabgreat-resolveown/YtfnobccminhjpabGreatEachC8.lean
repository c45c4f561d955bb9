/- The classes, one behind the other. -/
import Derived.Test.YtfnobccminhjpabGreatEachA8
import Derived.Test.YtfnobccminhjpabGreatClass8
namespace Go.Proofs.YtfnobccminhjpabGreat
open Go.RowKit Go.Shelf Go.Maps Go.WideMaps
section
variable {R : Nat} {S : StatM} {st : St9} {mp : Mp8} {it : Nat} {seen seen' : List Bytes} {w w' : World}
theorem Ec.no {o : Er Unit} {e : Ending} (h : Ec R S st mp it seen' w o e w') : (∃ c, o = .error c ∧ e = .panicked [fl c it] ∧ Fr (fun k => k = mp.C) w w') ∨ (o = .ok () ∧ e = .returned (.tuple #[]) ∧ Res R S st mp it seen' w' ∧ Fr (fun k => k = mp.C) w w') := by
  obtain ⟨hf, h⟩ := h
  cases o with
  | ok a => exact .inr ⟨rfl, h.1, h.2, hf⟩
  | error c => exact .inl ⟨c, rfl, h, hf⟩
theorem class_len {C : Ctx} {s l : List Bytes} (h : classM C s l = .ok ()) : l.length ≤ 16 := by
  unfold classM at h
  obtain ⟨_, h1, _⟩ := ex_ok h
  apply Classical.byContradiction
  intro hn
  rw [decide_eq_false (show ¬ ((l.length : Int) ≤ 16) by omega), Bool.and_false] at h1
  cases h1
theorem flat_snoc {l : List (List Bytes)} {i : Nat} {x : List Bytes} (hx : l[i]? = some x) : (l.take (i + 1)).flatten = (l.take i).flatten ++ x := by
  rw [take_snoc hx]; simp
abbrev clsM (S : StatM) : Nat → List Bytes → Er Unit := fun n l => classM S.ctx (S.classes.take n).flatten l
set_option maxRecDepth 100000 in
set_option maxHeartbeats 12800000 in
theorem eachC_any (h : Res R S st mp it [] w) {a : Option Addr} {c : Nat} (hl : RR R 1 (cClass R) w S.classes (.slice a S.classes.length c)) (hit : it ≤ 4096) (hn : S.classes.length ≤ 64) :
    Calls Tryz.prog 109 #[ptr R, .slice a S.classes.length c, .func (.func 110) #[ptr R] #[]] w fun e w' => Ee R S st mp it S.classes.flatten w (S.classes.mapIdx (clsM S)) e w' := by
  have H := hide h
  have HL := hide hl
  clear h hl
  go_enter Tryz.func109, Tryz.ntmps109
  go_wp2_with fail
  go_loopw [10] (fun x wr => ∃ i : Nat, i ≤ S.classes.length ∧ x = .int .i64 i ∧ Hid (Res R S st mp (it + i) (S.classes.take i).flatten wr) ∧ Hid (Fr (Zi R mp) w wr) ∧ Hid (AllOk ((S.classes.mapIdx (clsM S)).take i)) ∧ ((S.classes.take i).flatten).length ≤ 16 * i) (fun x _ => S.classes.length - (intOf x).toNat)
  case atStart => exact ⟨0, by omega, rfl, H, hide (.refl _ _), hide (by rw [List.take_zero]; exact AllOk.nil), by simp⟩
  case round =>
    obtain ⟨i, hi, rfl, HR, HF, HA, hsn⟩ := hrel
    by_cases hlt : i < S.classes.length
    · obtain ⟨x, hx⟩ : ∃ x, S.classes[i]? = some x := ⟨S.classes[i], List.getElem?_eq_getElem hlt⟩
      have HI : Hid ((S.classes.mapIdx (clsM S))[i]? = some (clsM S i x)) := by rw [List.getElem?_mapIdx, hx]; rfl
      have hl2 := RR.keep HL.out (zi_keep H.out HF.out) (fun _ _ h => h.keep (zi_keep H.out HF.out))
      obtain ⟨gg, oo, ka, kc, hga, hg, e0, hks⟩ := at_C hl2 hx
      cases hga
      have CK := hide (class_any HR.out i (by omega) x hks (by omega))
      have HX := hide (flat_snoc hx)
      clear hx hl2 hks
      go_wp2_with fail
      refine CK.out.mono ?_
      intro e w2 hE
      rcases hE.no with ⟨c1, h3, rfl, hf⟩ | ⟨h3, rfl, hR2, hf⟩
      · exact ⟨rfl, Ee.bad (HF.out.trans (hf.mono fun k _ hk => .inr hk)) HA.out HI.out h3⟩
      have HA2 := hide (AllOk.snoc HA.out HI.out h3)
      rw [← HX.out] at hR2
      have hlen : ((S.classes.take (i + 1)).flatten).length ≤ 16 * (i + 1) := by
        have := class_len h3
        rw [HX.out, List.length_append]
        omega
      have HR2 := hide hR2.count
      have HF2 := hide ((HF.out.trans (hf.mono fun k _ hk => .inr hk)).trans (.setCell ⟨R, 9, none⟩ (.int .i64 ((it + i + 1 : Nat) : Int)) (.inl rfl)))
      have r9 := hR2.c9
      have rz := hR2.frz 9
      have hcast : (((it + i : Nat) : Int) + 1) = ((it + i + 1 : Nat) : Int) := by omega
      clear hE h3 hf CK hR2 HR HF HA HI HX
      go_wp2_with fail
      go_roundw
      case rel => exact ⟨i + 1, by omega, by go_num, HR2, HF2, HA2, hlen⟩
      case measure => simp [intOf]; omega
    · have e : i = S.classes.length := by omega
      go_wp2_with fail
      go_end0
      exact Ee.ok (n := i) HF.out (by rw [List.length_mapIdx]; omega) (by rw [List.length_mapIdx]; omega) HA.out (by
        have := HR.out
        rw [e, List.take_length] at this
        rw [e]
        exact this)
end
end Go.Proofs.YtfnobccminhjpabGreat
