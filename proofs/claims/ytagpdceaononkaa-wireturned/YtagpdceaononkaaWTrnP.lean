/- Turned bytes are refused: plain mathematics. -/
import Derived.Test.YtagpdceaononkaaWBack
import Derived.Test.YtagpdceaononkaaTrnp
namespace Go.Proofs.Ytagpdceaononkaa

theorem val_app : ∀ (a b : List Int), val (a ++ b) = val a ^^^ val b * 2 ^ (8 * a.length)
  | [], b => by simp [val]
  | c :: a, b => by
    show c.toNat ^^^ val (a ++ b) * 2 ^ 8 = (c.toNat ^^^ val a * 2 ^ 8) ^^^ val b * 2 ^ (8 * (a.length + 1))
    rw [val_app a b, xor_mul_pow, Nat.xor_assoc, Nat.mul_assoc, ← Nat.pow_add, show 8 * a.length + 8 = 8 * (a.length + 1) by omega]
theorem val_four (n : Nat) (hn : n < 4294967296) : val (fourB n) = n := by
  have e0 : ((n : Int) % 256).toNat = n % 256 := by omega
  have e1 : ((n : Int) / 256 % 256).toNat = n / 256 % 256 := by omega
  have e2 : ((n : Int) / 65536 % 256).toNat = n / 65536 % 256 := by omega
  have e3 : ((n : Int) / 16777216 % 256).toNat = n / 16777216 := by omega
  have s0 := split_low 8 n
  have s1 := split_low 8 (n / 256)
  have s2 := split_low 8 (n / 65536)
  have d1 : n / 256 / 2 ^ 8 = n / 65536 := by omega
  have d2 : n / 65536 / 2 ^ 8 = n / 16777216 := by omega
  have d0 : n / 2 ^ 8 = n / 256 := by omega
  rw [d0, show n % 2 ^ 8 = n % 256 from rfl] at s0
  rw [d1, show n / 256 % 2 ^ 8 = n / 256 % 256 from rfl] at s1
  rw [d2, show n / 65536 % 2 ^ 8 = n / 65536 % 256 from rfl] at s2
  simp only [fourB, val, e0, e1, e2, e3, Nat.zero_mul, Nat.xor_zero]
  rw [Nat.xor_comm (n / 65536 % 256), ← s2, Nat.xor_comm (n / 256 % 256), ← s1, Nat.xor_comm (n % 256), ← s0]
/-- Bytes behind which their sum stands have one sum. -/
theorem crc_own {b : List Int} (hb : ∀ z ∈ b, 0 ≤ z ∧ z ≤ 255) : crc (b ++ fourB (crc b)) = ((4294967295 ^^^ bitSteps 32 4294967295 : Nat) : Int) := by
  have hs := sumFrom_lt b 4294967295 (by decide) hb
  obtain ⟨s, he⟩ : ∃ s, sumFrom 4294967295 b = s := ⟨_, rfl⟩
  rw [he] at hs
  have hc : crc b = ((4294967295 ^^^ s : Nat) : Int) := by unfold crc; rw [he]
  have hx : 4294967295 ^^^ s < 4294967296 := Nat.xor_lt_two_pow (n := 32) (by decide) hs
  rw [hc]
  unfold crc
  rw [sumFrom_append, he, sumFrom_val, val_four _ hx]
  have : s ^^^ (4294967295 ^^^ s) = 4294967295 := by rw [Nat.xor_comm 4294967295, ← Nat.xor_assoc, Nat.xor_self, Nat.zero_xor]
  rw [this]
  rfl
theorem enc_crc {l : List StM} (o : Okl l) : crc (encB l) = ((4294967295 ^^^ bitSteps 32 4294967295 : Nat) : Int) := crc_own (body_byte o)
/-- What is turned is refused. -/
theorem turned_no {l : List StM} (o : Okl l) {cs : List Int} (hc : ∀ z ∈ cs, 0 ≤ z ∧ z ≤ 255) {T f : Nat} (hl : cs.length = (encB l).length) (hv : val cs = val (encB l) ^^^ T * 2 ^ f) (hf : f ≤ 8 * (encB l).length) (hT : T < 4294967296) (h0 : T ≠ 0) : ∃ c p, wholeM cs = .error (c, p) ∧ c ≠ 0 := by
  cases hw : wholeM cs with
  | error e => exact ⟨e.1, e.2, rfl, whole_err hw⟩
  | ok m =>
    obtain ⟨o2, e⟩ := (whole_iff hc).1 hw
    have := (crc_turned cs (encB l) T f hl hv hf hT).1 (by rw [e, enc_crc o2, enc_crc o])
    exact absurd this h0
theorem val_inj : ∀ (a b : List Int), (∀ z ∈ a, 0 ≤ z ∧ z ≤ 255) → (∀ z ∈ b, 0 ≤ z ∧ z ≤ 255) → a.length = b.length → val a = val b → a = b
  | [], [], _, _, _, _ => rfl
  | [], _ :: _, _, _, h, _ => by simp at h
  | _ :: _, [], _, _, h, _ => by simp at h
  | x :: a, y :: b, ha, hb, hl, hv => by
    have hx := ha x (by simp)
    have hy := hb y (by simp)
    have key : ∀ (c : Int) (r : List Int), 0 ≤ c → c ≤ 255 → val (c :: r) = val r * 2 ^ 8 + c.toNat := fun c r h0 h1 => by
      show c.toNat ^^^ val r * 2 ^ 8 = _
      have h2 := split_low 8 (val r * 2 ^ 8 + c.toNat)
      have e1 : (val r * 2 ^ 8 + c.toNat) / 2 ^ 8 = val r := by omega
      have e2 : (val r * 2 ^ 8 + c.toNat) % 2 ^ 8 = c.toNat := by omega
      rw [e1, e2] at h2
      rw [h2, Nat.xor_comm]
    rw [key x a hx.1 hx.2, key y b hy.1 hy.2] at hv
    have e1 : x = y := by omega
    have e2 : val a = val b := by omega
    rw [e1, val_inj a b (fun z hz => ha z (by simp [hz])) (fun z hz => hb z (by simp [hz])) (by simpa using hl) e2]
end Go.Proofs.Ytagpdceaononkaa
