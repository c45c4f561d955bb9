/- A text's day: the program's and the document's. -/
import Derived.Test.YtnafhjmeofddoaaRead
import Derived.Deep.QuietTactic
namespace Go.Proofs.Ytnafhjmeofddoaa
open Go.RowKit

/-- What Parse answers. -/
noncomputable def parseQ (t : ByteArray) : Int × Int := if (readP t).2 = true then ofP ((readP t).1 / 10000) ((readP t).1 / 100 % 100) ((readP t).1 % 100) else (0, 31)

theorem readP_bd (t : ByteArray) : 0 ≤ (readP t).1 ∧ (readP t).1 ≤ 10000000000 := by
  unfold readP
  split
  · next h => exact partD_small t 10 (by omega) h.2
  · simp

set_option maxHeartbeats 400000 in
theorem parse_any (t : ByteArray) (w : World) :
    Calls Try.prog 17 #[.string t] w fun e w' => e = .returned (duo (parseQ t)) ∧ Below w.heap.size w w' := by
  have hbd := readP_bd t
  generalize hr : readP t = r at hbd
  obtain ⟨D, b⟩ := r
  obtain ⟨hD0, hD1⟩ := hbd
  simp only at hD0 hD1
  have HR := hide hr
  have HP : Hid (parseQ t = if b = true then ofP (D / 10000) (D / 100 % 100) (D % 100) else (0, 31)) := by unfold Hid parseQ; rw [hr]
  clear hr
  go_enter Try.func17, Try.ntmps17
  go_wp2_with fail
  refine (readDigits_any _ _).mono ?_
  rintro e w1 ⟨rfl, n, rfl⟩
  rw [HR.out, duoB]
  cases b
  · go_wp2
    go_ret2
    exact ⟨by rw [HP.out]; rfl, drewN_below _ _ _⟩
  · go_wp2_with fail
    refine (of_any _ _ _ _).mono ?_
    rintro e w2 ⟨rfl, hb⟩
    have HQ : Hid (ofP (D / 10000) (D / 100 % 100) (D % 100) = parseQ t) := by unfold Hid; rw [HP.out]; simp
    rw [HQ.out, duo]
    go_wp2
    go_ret2
    exact ⟨rfl, (drewN_below _ _ _).trans hb⟩

theorem readP_yes (t : ByteArray) (h : t.size = 10) (ho : okTo t 10) : readP t = (partD t 10, true) := by unfold readP; rw [if_pos ⟨h, ho⟩]
theorem readP_not (t : ByteArray) (h : ¬ (t.size = 10 ∧ okTo t 10)) : readP t = (0, false) := by unfold readP; rw [if_neg h]

theorem ofP_neg (y m d : Int) (h : y = -1 ∨ m = -1 ∨ d = -1) : ofP y m d = (0, 31) := by
  unfold ofP; rw [if_neg]; intro ⟨h1, h2, h3, h4, h5, h6⟩; omega

theorem numberP_all {l : List UInt8} (h : ∀ c ∈ l, isD c) : numberP l = valD l := by unfold numberP; rw [if_pos h]
theorem numberP_not {l : List UInt8} {c : UInt8} (hm : c ∈ l) (h : ¬ isD c) : numberP l = -1 := by unfold numberP; rw [if_neg]; exact fun h' => h (h' c hm)

theorem ten_bytes (t : ByteArray) (h : t.size = 10) : ∃ c0 c1 c2 c3 c4 c5 c6 c7 c8 c9, t = ⟨#[c0, c1, c2, c3, c4, c5, c6, c7, c8, c9]⟩ := by
  obtain ⟨⟨l⟩⟩ := t
  have hl : l.length = 10 := h
  match l, hl with
  | [c0, c1, c2, c3, c4, c5, c6, c7, c8, c9], _ => exact ⟨c0, c1, c2, c3, c4, c5, c6, c7, c8, c9, rfl⟩

theorem parse_plain (t : ByteArray) (h : t.size = 10) (h4 : byteAt t 4 = 45) (h7 : byteAt t 7 = 45) :
    ofP (numberP (List.take 4 t.data.toList)) (numberP (List.take 2 (List.drop 5 t.data.toList))) (numberP (List.take 2 (List.drop 8 t.data.toList))) = parseQ t := by
  obtain ⟨c0, c1, c2, c3, c4, c5, c6, c7, c8, c9, rfl⟩ := ten_bytes t h
  rw [show List.take 4 (⟨#[c0, c1, c2, c3, c4, c5, c6, c7, c8, c9]⟩ : ByteArray).data.toList = [c0, c1, c2, c3] from rfl,
    show List.take 2 (List.drop 5 (⟨#[c0, c1, c2, c3, c4, c5, c6, c7, c8, c9]⟩ : ByteArray).data.toList) = [c5, c6] from rfl,
    show List.take 2 (List.drop 8 (⟨#[c0, c1, c2, c3, c4, c5, c6, c7, c8, c9]⟩ : ByteArray).data.toList) = [c8, c9] from rfl]
  have hok : okTo ⟨#[c0, c1, c2, c3, c4, c5, c6, c7, c8, c9]⟩ 10 ↔ (isD c0 ∧ isD c1 ∧ isD c2 ∧ isD c3) ∧ (isD c5 ∧ isD c6) ∧ (isD c8 ∧ isD c9) := by
    simp only [byteAt] at h4 h7
    simp [okTo, okOne, byteAt, isD] at h4 h7 ⊢
    simp only [h4, h7]
    constructor
    · intro hh; simp [hh]
    · intro hh; simp [hh]
  by_cases hc : (isD c0 ∧ isD c1 ∧ isD c2 ∧ isD c3) ∧ (isD c5 ∧ isD c6) ∧ (isD c8 ∧ isD c9)
  · have ho := hok.2 hc
    obtain ⟨⟨d0, d1, d2, d3⟩, ⟨d5, d6⟩, ⟨d8, d9⟩⟩ := hc
    rw [numberP_all (l := [c0, c1, c2, c3]) (by simp [*]), numberP_all (l := [c5, c6]) (by simp [*]), numberP_all (l := [c8, c9]) (by simp [*])]
    unfold parseQ
    rw [readP_yes _ h ho]
    simp only [if_true]
    have e : partD ⟨#[c0, c1, c2, c3, c4, c5, c6, c7, c8, c9]⟩ 10 = valD [c0, c1, c2, c3] * 10000 + valD [c5, c6] * 100 + valD [c8, c9] := by
      simp [partD, byteAt, valD]; omega
    have b1 := valD_bd 4 [c0, c1, c2, c3] rfl (by simp [*])
    have b2 := valD_bd 2 [c5, c6] rfl (by simp [*])
    have b3 := valD_bd 2 [c8, c9] rfl (by simp [*])
    rw [e]
    congr 1 <;> omega
  · have hn : parseQ ⟨#[c0, c1, c2, c3, c4, c5, c6, c7, c8, c9]⟩ = (0, 31) := by
      unfold parseQ
      rw [readP_not _ (fun hh => hc (hok.1 hh.2))]
      simp
    rw [hn]
    apply ofP_neg
    by_cases e0 : isD c0
    · by_cases e1 : isD c1
      · by_cases e2 : isD c2
        · by_cases e3 : isD c3
          · by_cases e5 : isD c5
            · by_cases e6 : isD c6
              · by_cases e8 : isD c8
                · by_cases e9 : isD c9
                  · exact absurd ⟨⟨e0, e1, e2, e3⟩, ⟨e5, e6⟩, ⟨e8, e9⟩⟩ hc
                  · exact .inr (.inr (numberP_not (by simp) e9))
                · exact .inr (.inr (numberP_not (by simp) e8))
              · exact .inr (.inl (numberP_not (by simp) e6))
            · exact .inr (.inl (numberP_not (by simp) e5))
          · exact .inl (numberP_not (by simp) e3)
        · exact .inl (numberP_not (by simp) e2)
      · exact .inl (numberP_not (by simp) e1)
    · exact .inl (numberP_not (by simp) e0)

theorem parse_len (t : ByteArray) (h : ¬ t.size = 10) : parseQ t = (0, 31) := by
  unfold parseQ; rw [readP_not _ (fun hh => h hh.1)]; simp

theorem parse_dash (t : ByteArray) (k : Nat) (hk : k = 4 ∨ k = 7) (h : ¬ byteAt t k = 45) : parseQ t = (0, 31) := by
  unfold parseQ; rw [readP_no t k (by omega) (by unfold okOne; rw [if_pos hk]; exact h)]; simp

theorem refOf_tup (y m d a b : Int) (w : World) (h : ofP y m d = (a, b)) :
    Calls Try.prog 10 #[.int .i64 y, .int .i64 m, .int .i64 d] w fun e w' => e = .returned (.tuple #[.int .i64 a, .int .i64 b]) ∧ w' = w := by
  have := refOf_any y m d w; rw [h, duo] at this; exact this

set_option maxHeartbeats 800000 in
theorem refParse_any (t : ByteArray) (w : World) :
    Calls Try.prog 18 #[.string t] w fun e w' => e = .returned (duo (parseQ t)) ∧ ∃ n, w' = w.drewN n := by
  by_cases h10 : t.size = 10
  · have hlt4 : 4 < t.size := by omega
    have hlt7 : 7 < t.size := by omega
    have HB4 := hide (byteAt_of t 4 hlt4)
    have HB7 := hide (byteAt_of t 7 hlt7)
    by_cases h4 : (t[4].toNat : Int) = 45
    · by_cases h7 : (t[7].toNat : Int) = 45
      · have HP := hide (parse_plain t h10 (HB4.out ▸ h4) (HB7.out ▸ h7))
        generalize parseQ t = r at HP ⊢
        obtain ⟨a, b⟩ := r
        go_enter Try.func18, Try.ntmps18
        go_wp2_with fail
        go_quiet ((first | (go_at_call 36; exact Calls.quiet_of_same (number_any _ _ (by simp; omega))) | (go_at_call 10; exact Calls.quiet_of_same (refOf_tup _ _ _ a b _ HP.out))))
        go_wp2
        go_ret2
        exact ⟨rfl, _, rfl⟩
      · have HP := hide (parse_dash t 7 (.inr rfl) (HB7.out ▸ h7))
        go_enter Try.func18, Try.ntmps18
        go_wp2
        go_ret2
        exact ⟨by rw [HP.out]; rfl, 0, rfl⟩
    · have HP := hide (parse_dash t 4 (.inl rfl) (HB4.out ▸ h4))
      go_enter Try.func18, Try.ntmps18
      go_wp2
      go_ret2
      exact ⟨by rw [HP.out]; rfl, 0, rfl⟩
  · have HP := hide (parse_len t h10)
    have h10' : ¬ (t.size : Int) = 10 := by omega
    go_enter Try.func18, Try.ntmps18
    go_wp2
    go_ret2
    exact ⟨by rw [HP.out]; rfl, 0, rfl⟩

end Go.Proofs.Ytnafhjmeofddoaa
