/- The closures of loopFrom; IndexFunc, ContainsFunc, firstOf over them. (tools/gen14/lf.py wrote this.) -/
import Derived.Test.YtdholifacnnjcaaSig
import Derived.BigQuiet
namespace Go.Proofs.Ytdholifacnnjcaa
open Go.RowKit

/-- What is said, in a box. -/
structure Sb (S sr n : Nat) (rv : Value) (sg : List Int) (w : World) : Prop where
  bx : Fx S 48 [.slice (some ⟨sr, 0, none⟩) n n, rv] w
  rw : Fx sr 44 (ints sg) w
  ln : sg.length = n
theorem Sb.keep {S sr n : Nat} {rv : Value} {sg : List Int} {w w' : World} (h : Sb S sr n rv sg w) (h1 : w'.heap[S]? = w.heap[S]?) (h2 : w'.heap[sr]? = w.heap[sr]?) : Sb S sr n rv sg w' := ⟨h.bx.keep h1, h.rw.keep h2, h.ln⟩
def idxF (p : Int → Bool) : Nat → List Int → Option Nat
  | _, [] => none
  | k, x :: l => if p x then some k else idxF p (k + 1) l
def idxV : Option Nat → Int
  | none => -1
  | some k => k
theorem idxF_end {p : Int → Bool} {l : List Int} {k j : Nat} (h : l.length ≤ k) : idxF p j (l.drop k) = none := by rw [List.drop_eq_nil_of_le h]; rfl
theorem idxF_yes {p : Int → Bool} {l : List Int} {k : Nat} {x : Int} (hx : l[k]? = some x) (h : p x = true) : idxF p k (l.drop k) = some k := by rw [drop_at hx, idxF, if_pos h]
theorem idxF_no {p : Int → Bool} {l : List Int} {k : Nat} {x : Int} (hx : l[k]? = some x) (h : p x = false) : idxF p k (l.drop k) = idxF p (k + 1) (l.drop (k + 1)) := by rw [drop_at hx, idxF, if_neg (by rw [h]; decide)]
theorem idxF_some {p : Int → Bool} : ∀ {l : List Int} {j k : Nat}, idxF p j l = some k → ∃ i x, k = j + i ∧ l[i]? = some x ∧ p x = true ∧ ∀ i' x', i' < i → l[i']? = some x' → p x' = false
  | [], _, _, h => by cases h
  | y :: l, j, k, h => by
    unfold idxF at h
    split at h
    · rename_i hp
      cases h
      exact ⟨0, y, rfl, rfl, hp, fun i' x' h => by omega⟩
    · rename_i hp
      obtain ⟨i, x, e, hx, hpx, hall⟩ := idxF_some h
      refine ⟨i + 1, x, by omega, by simpa using hx, hpx, fun i' x' hi hx' => ?_⟩
      cases i' with
      | zero =>
        simp at hx'
        subst hx'
        simpa using hp
      | succ i' => exact hall i' x' (by omega) (by simpa using hx')
theorem idxF_none {p : Int → Bool} : ∀ {l : List Int} {j : Nat}, idxF p j l = none → ∀ x ∈ l, p x = false
  | [], _, _, x, hx => by cases hx
  | y :: l, j, h, x, hx => by
    unfold idxF at h
    split at h
    · cases h
    · rename_i hp
      rcases List.mem_cons.1 hx with rfl | hx
      · simpa using hp
      · exact idxF_none h x hx
section
variable {S sr n : Nat} {rv : Value} {sg : List Int} {w : World}
set_option maxRecDepth 100000 in
set_option maxHeartbeats 3200000 in
theorem ref_any {x : Int} {b : Bool} (h : Sb S sr n rv sg w) (hx : 0 ≤ x ∧ x < (n : Int)) (hb : (decide (gi sg x = 2)) = b) :
    Calls Try.prog 30 #[.int .i64 x, ptr S] w fun e w' => e = .returned (.bool b) ∧ w' = w := by
  obtain ⟨xm, rfl⟩ := Int.eq_ofNat_of_zero_le hx.1
  have s0 := h.bx.get (i := 0) rfl
  have c0 := h.rw.get (int_at (l := sg) (k := xm) (by rw [h.ln]; omega))
  have hxn : xm < n := by omega
  rw [gi_nat] at hb
  have HB := hide hb
  clear h hx hb
  generalize sg.getD xm 0 = v at *
  go_enter Try.func30, Try.ntmps30
  go_wp2_with fail
  go_ret
  exact ⟨by rw [← HB.out]; rfl, rfl⟩
set_option maxRecDepth 100000 in
set_option maxHeartbeats 3200000 in
theorem refIdx_any {l : List Int} {a : Option Addr} {c : Nat} {p : Int → Bool} (h : Sb S sr n rv sg w) (hl : At1 w a (ints l)) (hlim : l.length ≤ 140737488351232) (hin : ∀ x ∈ l, 0 ≤ x ∧ x < (n : Int)) (hp : p = fun x => decide (gi sg x = 2)) :
    Calls Try.prog 45 #[.slice a l.length c, .func (.func 30) #[] #[ptr S]] w fun e w' => e = .returned (.int .i64 (idxV (idxF p 0 l))) ∧ w' = w := by
  have HS := hide h
  have HL := hide hl
  have HIN := hide hin
  have HP := hide hp
  obtain ⟨o, ho⟩ : ∃ o, idxF p 0 l = o := ⟨_, rfl⟩
  rw [ho]
  have HO : Hid (idxF p 0 (l.drop 0) = o) := hide (by rw [List.drop_zero]; exact ho)
  clear h hl hin ho hp
  go_enter Try.func45, Try.ntmps45
  go_wp2_with fail
  go_loop [8] (fun x => ∃ k : Nat, k ≤ l.length ∧ x = .int .i64 k ∧ Hid (idxF p k (l.drop k) = o)) (fun x => l.length - (intOf x).toNat)
  case atStart => exact ⟨0, by omega, rfl, HO⟩
  case round =>
    clear HO
    obtain ⟨k, hk, rfl, HO⟩ := hrel
    by_cases hlt : k < l.length
    · obtain ⟨x, hx⟩ := get_at hlt
      obtain ⟨g, gg, rfl, cx⟩ := HL.out.get hx
      obtain ⟨b, hb⟩ : ∃ b, p x = b := ⟨_, rfl⟩
      have CR := hide (ref_any (x := x) (b := b) HS.out (HIN.out x (List.mem_of_getElem? hx)) (by rw [← hb, HP.out]))
      cases b with
      | true =>
        have HE : Hid (o = some k) := hide (by rw [← HO.out]; exact idxF_yes hx hb)
        clear hb hx HO
        go_wp2_with (go_at_call 30; refine CR.out.mono ?_; rintro _ w2 ⟨rfl, rfl⟩)
        go_ret
        rw [HE.out]
        exact ⟨rfl, rfl⟩
      | false =>
        have HE : Hid (idxF p (k + 1) (l.drop (k + 1)) = o) := hide (by rw [← HO.out]; exact (idxF_no hx hb).symm)
        clear hb hx HO
        go_wp2_with (go_at_call 30; refine CR.out.mono ?_; rintro _ w2 ⟨rfl, rfl⟩)
        go_round
        case rel => exact ⟨k + 1, by omega, by go_num, HE⟩
        case measure => simp [intOf]; omega
    · have HE : Hid (o = none) := hide (by rw [← HO.out]; exact idxF_end (by omega))
      clear HO
      go_wp2_with fail
      go_ret
      rw [HE.out]
      exact ⟨rfl, rfl⟩
set_option maxRecDepth 100000 in
set_option maxHeartbeats 3200000 in
theorem mis_any {x : Int} {b : Bool} (h : Sb S sr n rv sg w) (hx : 0 ≤ x ∧ x < (n : Int)) (hb : (!decide (gi sg x = 1)) = b) :
    Calls Try.prog 33 #[.int .i64 x, ptr S] w fun e w' => e = .returned (.bool b) ∧ w' = w := by
  obtain ⟨xm, rfl⟩ := Int.eq_ofNat_of_zero_le hx.1
  have s0 := h.bx.get (i := 0) rfl
  have c0 := h.rw.get (int_at (l := sg) (k := xm) (by rw [h.ln]; omega))
  have hxn : xm < n := by omega
  rw [gi_nat] at hb
  have HB := hide hb
  clear h hx hb
  generalize sg.getD xm 0 = v at *
  go_enter Try.func33, Try.ntmps33
  go_wp2_with fail
  go_ret
  exact ⟨by rw [← HB.out]; rfl, rfl⟩
set_option maxRecDepth 100000 in
set_option maxHeartbeats 3200000 in
theorem misIdx_any {l : List Int} {a : Option Addr} {c : Nat} {p : Int → Bool} (h : Sb S sr n rv sg w) (hl : At1 w a (ints l)) (hlim : l.length ≤ 140737488351232) (hin : ∀ x ∈ l, 0 ≤ x ∧ x < (n : Int)) (hp : p = fun x => !decide (gi sg x = 1)) :
    Calls Try.prog 45 #[.slice a l.length c, .func (.func 33) #[] #[ptr S]] w fun e w' => e = .returned (.int .i64 (idxV (idxF p 0 l))) ∧ w' = w := by
  have HS := hide h
  have HL := hide hl
  have HIN := hide hin
  have HP := hide hp
  obtain ⟨o, ho⟩ : ∃ o, idxF p 0 l = o := ⟨_, rfl⟩
  rw [ho]
  have HO : Hid (idxF p 0 (l.drop 0) = o) := hide (by rw [List.drop_zero]; exact ho)
  clear h hl hin ho hp
  go_enter Try.func45, Try.ntmps45
  go_wp2_with fail
  go_loop [8] (fun x => ∃ k : Nat, k ≤ l.length ∧ x = .int .i64 k ∧ Hid (idxF p k (l.drop k) = o)) (fun x => l.length - (intOf x).toNat)
  case atStart => exact ⟨0, by omega, rfl, HO⟩
  case round =>
    clear HO
    obtain ⟨k, hk, rfl, HO⟩ := hrel
    by_cases hlt : k < l.length
    · obtain ⟨x, hx⟩ := get_at hlt
      obtain ⟨g, gg, rfl, cx⟩ := HL.out.get hx
      obtain ⟨b, hb⟩ : ∃ b, p x = b := ⟨_, rfl⟩
      have CR := hide (mis_any (x := x) (b := b) HS.out (HIN.out x (List.mem_of_getElem? hx)) (by rw [← hb, HP.out]))
      cases b with
      | true =>
        have HE : Hid (o = some k) := hide (by rw [← HO.out]; exact idxF_yes hx hb)
        clear hb hx HO
        go_wp2_with (go_at_call 33; refine CR.out.mono ?_; rintro _ w2 ⟨rfl, rfl⟩)
        go_ret
        rw [HE.out]
        exact ⟨rfl, rfl⟩
      | false =>
        have HE : Hid (idxF p (k + 1) (l.drop (k + 1)) = o) := hide (by rw [← HO.out]; exact (idxF_no hx hb).symm)
        clear hb hx HO
        go_wp2_with (go_at_call 33; refine CR.out.mono ?_; rintro _ w2 ⟨rfl, rfl⟩)
        go_round
        case rel => exact ⟨k + 1, by omega, by go_num, HE⟩
        case measure => simp [intOf]; omega
    · have HE : Hid (o = none) := hide (by rw [← HO.out]; exact idxF_end (by omega))
      clear HO
      go_wp2_with fail
      go_ret
      rw [HE.out]
      exact ⟨rfl, rfl⟩
set_option maxRecDepth 100000 in
set_option maxHeartbeats 3200000 in
theorem refHas_any {l : List Int} {a : Option Addr} {c : Nat} {b : Bool} (h : Sb S sr n rv sg w) (hl : At1 w a (ints l)) (hlim : l.length ≤ 140737488351232) (hin : ∀ x ∈ l, 0 ≤ x ∧ x < (n : Int)) (hb : (idxF (fun x => decide (gi sg x = 2)) 0 l).isSome = b) :
    Calls Try.prog 32 #[.slice a l.length c, .func (.func 30) #[] #[ptr S]] w fun e w' => e = .returned (.bool b) ∧ w' = w := by
  have CI := hide (refIdx_any (c := c) h hl hlim hin rfl)
  obtain ⟨o, ho⟩ : ∃ o, idxF (fun x => decide (gi sg x = 2)) 0 l = o := ⟨_, rfl⟩
  rw [ho] at CI hb
  have hok : ∀ k, o = some k → k < l.length := by
    intro k hk
    rw [hk] at ho
    obtain ⟨i, x, e, hx, -, -⟩ := idxF_some ho
    have := (List.getElem?_eq_some_iff.1 hx).1
    omega
  clear h hl hin ho
  cases o with
  | none =>
    simp only [Option.isSome_none] at hb
    subst hb
    unfold idxV at CI
    simp only at CI
    clear hok
    go_enter Try.func32, Try.ntmps32
    go_wp2_with (go_at_call 45; refine CI.out.mono ?_; rintro _ w2 ⟨rfl, rfl⟩)
    go_ret
    exact ⟨rfl, rfl⟩
  | some k =>
    simp only [Option.isSome_some] at hb
    subst hb
    unfold idxV at CI
    simp only at CI
    have hkl := hok k rfl
    clear hok
    have h0 : (0 : Int) ≤ (k : Int) := by omega
    go_enter Try.func32, Try.ntmps32
    go_wp2_with (go_at_call 45; refine CI.out.mono ?_; rintro _ w2 ⟨rfl, rfl⟩)
    go_ret
    exact ⟨by simp, rfl⟩
set_option maxRecDepth 100000 in
set_option maxHeartbeats 3200000 in
theorem misFirst_any {l : List Int} {a : Option Addr} {c k : Nat} {x : Int} (h : Sb S sr n rv sg w) (hl : At1 w a (ints l)) (hlim : l.length ≤ 140737488351232) (hin : ∀ x ∈ l, 0 ≤ x ∧ x < (n : Int)) (hk : idxF (fun x => !decide (gi sg x = 1)) 0 l = some k) (hx : l[k]? = some x) :
    Calls Try.prog 34 #[.slice a l.length c, .func (.func 33) #[] #[ptr S]] w fun e w' => e = .returned (.int .i64 x) ∧ w' = w := by
  have CI := hide (misIdx_any (c := c) h hl hlim hin rfl)
  rw [hk] at CI
  unfold idxV at CI
  simp only at CI
  have hkl := (List.getElem?_eq_some_iff.1 hx).1
  obtain ⟨g, gg, rfl, cx⟩ := hl.get hx
  clear h hl hin hk hx
  go_enter Try.func34, Try.ntmps34
  go_wp2_with (go_at_call 45; refine CI.out.mono ?_; rintro _ w2 ⟨rfl, rfl⟩)
  go_ret
  exact ⟨rfl, rfl⟩
end
end Go.Proofs.Ytdholifacnnjcaa

