/- A day's text: the document's. -/
import Derived.Test.YtnafhjmeofddoaaText
import Derived.Deep.RegionHeld3
namespace Go.Proofs.Ytnafhjmeofddoaa
open Go.RowKit

/-- So many digits of a number. -/
def digK : Nat → Int → List Int
  | 0, _ => []
  | k + 1, n => digK k (n / 10) ++ [48 + n % 10]

theorem digK_len : ∀ k n, (digK k n).length = k := by
  intro k
  induction k with
  | zero => intro n; rfl
  | succ k ih => intro n; simp [digK, ih]

theorem str_join (a b : List Int) : strOfNums a ++ strOfNums b = strOfNums (a ++ b) := by
  unfold strOfNums
  apply ByteArray.ext
  rw [ByteArray.data_append]
  simp

theorem conv_one (X : World) (g : Nat) (c : Int) (h : X.cell? ⟨g, 0, none⟩ = some (.int .u8 c)) : (convert 69 9 (.slice (some ⟨g, 0, none⟩) 1 1)).run Try.prog X = .ok (.string (strOfNums [c])) X :=
  run_convert_bytes_arg (P := Try.prog) _ 69 5 Try.underlying69 Try.underlying5 g 0 1 1 [c] rfl (fun i hi => by
    have : i = 0 := by omega
    subst this
    exact h) 9 Try.underlying9

theorem wrap_i64 (a : Int) (h0 : 0 ≤ a) (h1 : a ≤ 100000) : IntKind.i64.wrap a = a := by rw [IntKind.wrap_i64]; omega
theorem wrap_u8 (a : Int) (h0 : 0 ≤ a) (h1 : a ≤ 255) : IntKind.u8.wrap a = a := by rw [IntKind.wrap_u8']; omega

set_option maxHeartbeats 800000 in
theorem digits_step (K k1 : Int) (L : Int → List Int) (hK1 : 1 ≤ K) (hK4 : K ≤ 4) (Hk : Hid (k1 = K - 1)) (HL : Hid (∀ n, (L n).length ≤ 4))
    (HI : Hid (∀ (n : Int) (w : World), 0 ≤ n → n ≤ 9999 → Calls Try.prog 38 #[.int .i64 n, .int .i64 k1] w fun e w' => e = .returned (.string (strOfNums (L n))) ∧ Below w.heap.size w w'))
    (n : Int) (w : World) (h0 : 0 ≤ n) (h1 : n ≤ 9999) :
    Calls Try.prog 38 #[.int .i64 n, .int .i64 K] w fun e w' => e = .returned (.string (strOfNums (L (n / 10) ++ [48 + n % 10]))) ∧ Below w.heap.size w w' := by
  have kc := conv_one
  have ks := strOfNums_size
  obtain ⟨q, Hq⟩ : ∃ q, Hid (q = n / 10) := ⟨_, rfl⟩
  obtain ⟨r, Hr⟩ : ∃ r, Hid (r = 48 + n % 10) := ⟨_, rfl⟩
  rw [← Hq.out, ← Hr.out]
  have hq0 : 0 ≤ q := by have := Hq.out; omega
  have hq1 : q ≤ 9999 := by have := Hq.out; omega
  have e1 : IntKind.i64.wrap (n.tdiv 10) = q := by rw [Int.tdiv_eq_ediv_of_nonneg h0, ← Hq.out]; exact wrap_i64 q hq0 (by omega)
  have e2 : IntKind.i64.wrap (K - 1) = k1 := by rw [Hk.out]; exact wrap_i64 _ (by omega) (by omega)
  have e3 : IntKind.i64.wrap (48 + n.tmod 10) = r := by rw [Int.tmod_eq_emod_of_nonneg h0, ← Hr.out]; have := Hr.out; exact wrap_i64 _ (by omega) (by omega)
  have e4 : IntKind.u8.wrap r = r := by have := Hr.out; exact wrap_u8 _ (by omega) (by omega)
  have hl := HL.out q
  go_enter Try.func38, Try.ntmps38
  go_wp2_with fail
  go_region_with ((go_at_call 38; refine (HI.out _ _ hq0 hq1).mono ?_; rintro e w1 ⟨rfl, hb⟩; obtain ⟨hc, hf⟩ := bcell hb))
  all_goals
    go_wp2
    go_ret
    refine ⟨ret_str (str_join _ _), ?_⟩
    first
      | exact ((drewN_below w 1 _).trans hb).alloc (by have := hb.size; simpa using this) _
      | exact ((Below.refl w.heap.size w).alloc (Nat.le_refl _) _).drew.trans (hb.mono (by simp))

set_option maxHeartbeats 400000 in
theorem digits_zero (n : Int) (w : World) : Calls Try.prog 38 #[.int .i64 n, .int .i64 0] w fun e w' => e = .returned (.string (strOfNums (digK 0 n))) ∧ Below w.heap.size w w' := by
  go_enter Try.func38, Try.ntmps38
  go_wp2
  go_ret
  exact ⟨rfl, Below.refl _ _⟩

theorem digits_any : ∀ (k : Nat), k ≤ 4 → ∀ (n : Int) (w : World), 0 ≤ n → n ≤ 9999 → Calls Try.prog 38 #[.int .i64 n, .int .i64 k] w fun e w' => e = .returned (.string (strOfNums (digK k n))) ∧ Below w.heap.size w w' := by
  intro k
  induction k with
  | zero => intro _ n w _ _; exact digits_zero n w
  | succ k ih =>
    intro hk n w h0 h1
    exact digits_step ((k + 1 : Nat) : Int) k (digK k) (by omega) (by omega) (by unfold Hid; omega) (fun n => by rw [digK_len]; omega) (ih (by omega)) n w h0 h1

theorem digits_four (n : Int) (w : World) (h0 : 0 ≤ n) (h1 : n ≤ 9999) : Calls Try.prog 38 #[.int .i64 n, .int .i64 4] w fun e w' => e = .returned (.string (strOfNums (digK 4 n))) ∧ Below w.heap.size w w' := digits_any 4 (by omega) n w h0 h1
theorem digits_two (n : Int) (w : World) (h0 : 0 ≤ n) (h1 : n ≤ 9999) : Calls Try.prog 38 #[.int .i64 n, .int .i64 2] w fun e w' => e = .returned (.string (strOfNums (digK 2 n))) ∧ Below w.heap.size w w' := digits_any 2 (by omega) n w h0 h1

theorem dash : (⟨#[45]⟩ : ByteArray) = strOfNums [45] := by decide +kernel

theorem print_join (y m d : Int) (h : Day y m d) : strOfNums (digK 4 y) ++ ⟨#[45]⟩ ++ strOfNums (digK 2 m) ++ ⟨#[45]⟩ ++ strOfNums (digK 2 d) = strOfNums (dateB y m d) := by
  rw [dash, str_join, str_join, str_join, str_join]
  obtain ⟨h1, h2, h3, h4, h5, h6⟩ := h
  have hml := mlen_pos y m
  congr 1
  simp only [digK, dateB, List.nil_append, List.cons_append]
  simp only [List.cons.injEq, and_true, true_and]
  omega

set_option maxHeartbeats 800000 in
theorem refPrint_any (x : Int) (w : World) :
    Calls Try.prog 20 #[.int .i64 x] w fun e w' => e = .returned (duoS (printP x)) ∧ Below w.heap.size w w' := by
  by_cases hx : 1 ≤ x ∧ x ≤ 3652059
  · obtain ⟨y, m, d, hd, he⟩ := day_of x hx.1 hx.2
    have HP := hide (printP_of hd)
    have HQ := hide (partsP_of hd)
    rw [he] at HP HQ
    have HJ := hide (print_join y m d hd)
    obtain ⟨h1, h2, h3, h4, h5, h6⟩ := hd
    have h7 : d ≤ 31 := by have := mlen_pos y m; omega
    clear he hx h6
    have ks := strOfNums_size
    have kl := digK_len
    go_enter Try.func20, Try.ntmps20
    go_wp2_with fail
    refine (refParts_any _ _).mono ?_
    rintro e w1 ⟨rfl, rfl⟩
    rw [HQ.out, quad]
    go_wp2_with fail
    refine (digits_four _ _ (by omega) (by omega)).mono ?_
    rintro e w2 ⟨rfl, hb2⟩
    go_wp2_with fail
    refine (digits_two _ _ (by omega) (by omega)).mono ?_
    rintro e w3 ⟨rfl, hb3⟩
    have hb13 := hb2.trans (hb3.mono hb2.size)
    clear hb2 hb3
    go_wp2_with fail
    refine (digits_two _ _ (by omega) (by omega)).mono ?_
    rintro e w4 ⟨rfl, hb4⟩
    have hb14 := hb13.trans (hb4.mono hb13.size)
    clear hb13 hb4
    go_wp2
    go_ret2
    exact ⟨by rw [HP.out, ← HJ.out]; rfl, hb14⟩
  · have HP := hide (printP_no hx)
    have HQ := hide (partsP_no hx)
    clear hx
    go_enter Try.func20, Try.ntmps20
    go_wp2_with fail
    refine (refParts_any _ _).mono ?_
    rintro e w1 ⟨rfl, rfl⟩
    rw [HQ.out, quad]
    go_wp2
    go_ret2
    exact ⟨by rw [HP.out]; rfl, Below.refl _ _⟩

end Go.Proofs.Ytnafhjmeofddoaa
