namespace Go.Proofs.YtbpphlmakmeoaaaGreatDoor
def cls (c : Int) : Int :=
 if c = 10 then 1
 else if c = 9 then 2
 else if c = 13 then 2
 else if c = 32 then 2
 else if c = 95 then 6
 else if c = 34 then 7
 else if c = 35 then 8
 else if c = 46 then 9
 else if c = 45 then 10
 else if c = 61 then 10
 else if c = 126 then 10
 else if c = 33 then 10
 else if c = 60 then 10
 else if c = 62 then 10
 else if c = 40 then 10
 else if c = 41 then 10
 else if c = 123 then 10
 else if c = 125 then 10
 else if c = 44 then 10
 else if c = 58 then 10
 else if c = 43 then 10
 else if c = 42 then 10
 else if 97 ≤ c ∧ c ≤ 122 then 3
 else if 65 ≤ c ∧ c ≤ 90 then 4
 else if 48 ≤ c ∧ c ≤ 57 then 5
 else 0
def mx : List (List UInt8) := [[45, 62], [61, 62], [126, 62], [33, 61], [60, 61], [62, 61], [61, 61], [60, 62], [60], [62], [40], [41], [123], [125], [44], [46], [58], [61], [45], [43], [42]]
def gY (s : List UInt8) : Bool := decide (s ∈ mx)
structure fw where
 kind : Nat
 text : List UInt8
 place : Nat
 deriving DecidableEq
structure St where
 fn : Nat
 frm : Nat
 tk : List fw
 rm : List (List UInt8)
 err : Int
 place : Nat
def fJ (c : UInt8) : Bool := decide (48 ≤ c.toNat ∧ c.toNat ≤ 57)
def jx (j : Nat) (c : UInt8) : Bool := if j = 4 ∨ j = 7 then decide (c.toNat = 45) else fJ c
def dateB (l : List UInt8) : Bool := decide (10 ≤ l.length) && (List.range 10).all fun j => jx j (l.getD j 0)
theorem nF (c : UInt8) : (cls (c.toNat : Int) = 5) ↔ fJ c = true := by
 unfold cls fJ
 simp only [decide_eq_true_eq]
 repeat' split
 all_goals (first | omega | (constructor <;> intro h <;> first | omega | (simp at h)))
def eU (T : List UInt8) (S : St) (i : Nat) (c : Int) : St :=
 if cls c = 1 ∨ cls c = 2 then { S with frm := i }
 else if cls c = 3 then { S with frm := i, fn := 231 }
 else if cls c = 4 then { S with frm := i, fn := 232 }
 else if cls c = 5 then { S with frm := i, fn := if dateB (T.drop i) then 235 else 233 }
 else if cls c = 7 then { S with frm := i, fn := 236 }
 else if cls c = 8 then { S with frm := i, fn := 237 }
 else if cls c = 9 ∨ cls c = 10 then { S with frm := i, fn := 238 }
 else { S with frm := i, err := 41, place := i }
theorem rt (c : Int) : cls c = 0 ∨ cls c = 1 ∨ cls c = 2 ∨ cls c = 3 ∨ cls c = 4 ∨ cls c = 5 ∨ cls c = 6 ∨ cls c = 7 ∨ cls c = 8 ∨ cls c = 9 ∨ cls c = 10 := by
 have h : ∀ x, x = cls c → 0 ≤ x ∧ x ≤ 10 := by
  intro x hx
  unfold cls at hx
  repeat' split at hx
  all_goals omega
 have := h _ rfl
 omega
def sub (T : List UInt8) (a b : Nat) : List UInt8 := (T.drop a).take (b - a)
def hQ (T : List UInt8) (S : St) (kind i : Nat) (c : Int) : St :=
 if cls c = 3 ∨ cls c = 4 ∨ cls c = 5 ∨ cls c = 6 then { S with err := 41, place := i }
 else eU T { S with fn := 177, tk := S.tk ++ [⟨kind, sub T S.frm i, S.frm⟩] } i c
def jL (T : List UInt8) (S : St) (kind i : Nat) (c : Int) : St :=
 if 32 < i - S.frm then { S with err := 5, place := S.frm } else hQ T S kind i c
def li (T : List UInt8) (S : St) (i : Nat) (c : Int) : St := if cls c = 3 ∨ cls c = 5 ∨ cls c = 6 then S else jL T S 1 i c
def mP (T : List UInt8) (S : St) (i : Nat) (c : Int) : St := if cls c = 3 ∨ cls c = 4 ∨ cls c = 5 ∨ cls c = 6 then S else jL T S 2 i c
def ir (T : List UInt8) (S : St) (i : Nat) (c : Int) : St :=
 if cls c = 5 then S else if cls c = 9 ∧ fJ (T.getD (i + 1) 0) = true then { S with fn := 287 } else hQ T S 3 i c
def i1 (T : List UInt8) (S : St) (i : Nat) (c : Int) : St := if cls c = 5 then S else hQ T S 3 i c
def ld (T : List UInt8) (S : St) (i : Nat) (c : Int) : St := if i = S.frm + 10 then hQ T S 4 i c else S
def jg (T : List UInt8) (S : St) (i : Nat) (c : Int) : St :=
 if cls c = 7 then { S with fn := 177, tk := S.tk ++ [⟨5, sub T (S.frm + 1) i, S.frm⟩] } else if cls c = 1 then { S with err := 42, place := S.frm } else S
def jO (T : List UInt8) (S : St) (i : Nat) (c : Int) : St :=
 if cls c = 1 then { S with fn := 177, rm := S.rm ++ [sub T (S.frm + 1) i] } else S
def lb (T : List UInt8) (S : St) (i : Nat) (c : Int) : St :=
 if gY (sub T S.frm (i + 1)) = true then { S with fn := 177, tk := S.tk ++ [⟨6, sub T S.frm (i + 1), S.frm⟩] }
 else if gY (sub T S.frm i) = true then eU T { S with fn := 177, tk := S.tk ++ [⟨6, sub T S.frm i, S.frm⟩] } i c
 else { S with err := 41, place := S.frm }
end Go.Proofs.YtbpphlmakmeoaaaGreatDoor
namespace Go.Proofs.YtbpphlmakmeoaaaGreatDoor
def eP (c : UInt8) : Int := cls (c.toNat : Int)
def mH (c : UInt8) : Bool := decide (eP c = 3 ∨ eP c = 5 ∨ eP c = 6)
def jv (c : UInt8) : Bool := decide (eP c = 3 ∨ eP c = 4 ∨ eP c = 5 ∨ eP c = 6)
def gP (c : UInt8) : Bool := decide (eP c = 1 ∨ eP c = 2)
def gX (c : UInt8) : Bool := decide (eP c ≠ 1)
def lM (c : UInt8) : Bool := decide (eP c ≠ 7 ∧ eP c ≠ 1)
def fa (p : UInt8 → Bool) (l : List UInt8) : Nat := (l.takeWhile p).length
theorem rb (p : UInt8 → Bool) : ∀ (n : Nat) (l : List UInt8), n ≤ l.length → (∀ j, j < n → p (l.getD j 0) = true) → (n < l.length → p (l.getD n 0) = false) → fa p l = n := by
 intro n
 induction n with
 | zero =>
  intro l _ _ h
  cases l with
  | nil => rfl
  | cons c r => have := h (by simp); simp only [List.getD_cons_zero] at this; simp [fa, this]
 | succ n ih =>
  intro l hl h1 h2
  cases l with
  | nil => simp at hl
  | cons c r =>
   have h0 := h1 0 (by omega)
   simp only [List.getD_cons_zero] at h0
   have := ih r (by simpa using hl) (fun j hj => by simpa using h1 (j + 1) (by omega)) (fun h => by simpa using h2 (by simpa using h))
   simp only [fa, List.takeWhile_cons, h0, if_true, List.length_cons] at this ⊢
   omega
theorem iH (p : UInt8 → Bool) (l : List UInt8) : fa p l ≤ l.length := by
 induction l with
 | nil => simp [fa]
 | cons c r ih => simp only [fa, List.takeWhile_cons] at ih ⊢; split <;> simp <;> omega
theorem uC (p : UInt8 → Bool) : ∀ (l : List UInt8) (j : Nat), j < fa p l → p (l.getD j 0) = true := by
 intro l
 induction l with
 | nil => intro j h; simp [fa] at h
 | cons c r ih =>
  intro j h
  simp only [fa, List.takeWhile_cons] at h
  cases hc : p c with
  | false => simp [hc] at h
  | true =>
   simp only [hc, if_true, List.length_cons] at h
   cases j with
   | zero => simpa using hc
   | succ j => simpa using ih j (by unfold fa; omega)
theorem sQ (p : UInt8 → Bool) : ∀ (l : List UInt8), fa p l < l.length → p (l.getD (fa p l) 0) = false := by
 intro l
 induction l with
 | nil => intro h; simp at h
 | cons c r ih =>
  intro h
  cases hc : p c with
  | false => simp [fa, hc]
  | true =>
   have e : fa p (c :: r) = fa p r + 1 := by simp [fa, hc]
   rw [e] at h ⊢
   simpa using ih (by simpa using h)
def jC (l : List UInt8) : Nat :=
 if eP (l.getD (fa fJ l) 0) = 9 ∧ fJ (l.getD (fa fJ l + 1) 0) = true then fa fJ l + 1 + fa fJ (l.drop (fa fJ l + 1)) else fa fJ l
def fin (kind n : Nat) (l : List UInt8) : Nat × Nat × Nat × Nat :=
 if (kind = 1 ∨ kind = 2) ∧ 32 < n then (0, 0, 5, 0) else if jv (l.getD n 0) = true then (0, 0, 41, n) else (kind, n, 0, 0)
def one (l : List UInt8) : Nat × Nat × Nat × Nat :=
 if dateB l = true then fin 4 10 l
 else if eP (l.getD 0 0) = 5 then fin 3 (jC l) l
 else if eP (l.getD 0 0) = 3 then fin 1 (fa mH l) l
 else if eP (l.getD 0 0) = 4 then fin 2 (fa jv l) l
 else if eP (l.getD 0 0) = 7 then (if eP (l.getD (fa lM (l.drop 1) + 1) 0) = 7 then (5, fa lM (l.drop 1) + 2, 0, 0) else (0, 0, 42, 0))
 else if 2 ≤ l.length ∧ gY (l.take 2) = true then (6, 2, 0, 0)
 else if gY (l.take 1) = true then (6, 1, 0, 0)
 else (0, 0, 41, 0)
def jH (kind m : Nat) (l : List UInt8) (i : Nat) : fw := ⟨kind, if kind = 5 then (l.take (m - 1)).drop 1 else l.take m, i⟩
structure Res where
 tk : List fw
 rm : List (List UInt8)
 err : Nat
 place : Nat
 deriving DecidableEq
def kz : Nat → List UInt8 → Nat → List fw → List (List UInt8) → Res
 | 0, _, i, tk, rm => ⟨tk, rm, 0, i⟩
 | _ + 1, [], i, tk, rm => ⟨tk, rm, 0, i⟩
 | n + 1, c :: r, i, tk, rm =>
  if gP c = true then kz n r (i + 1) tk rm
  else if eP c = 8 then kz n (r.drop (fa gX r)) (i + 1 + fa gX r) tk (rm ++ [r.take (fa gX r)])
  else if (one (c :: r)).2.2.1 ≠ 0 then ⟨[], [], (one (c :: r)).2.2.1, i + (one (c :: r)).2.2.2⟩
  else kz n ((c :: r).drop (one (c :: r)).2.1) (i + (one (c :: r)).2.1) (tk ++ [jH (one (c :: r)).1 (one (c :: r)).2.1 (c :: r) i]) rm
def W (l : List UInt8) (i : Nat) (tk : List fw) (rm : List (List UInt8)) : Res := kz l.length l i tk rm
theorem kU : eP 0 = 0 := by decide
theorem o9 {kind n : Nat} {l : List UInt8} (h : (fin kind n l).2.2.1 = 0) : fin kind n l = (kind, n, 0, 0) := by
 unfold fin at h ⊢
 split at h
 · simp at h
 · split at h
   · simp at h
   · simp_all
theorem oI {p : UInt8 → Bool} {l : List UInt8} (h : p (l.getD 0 0) = true) (h0 : l ≠ []) : 1 ≤ fa p l := by
 cases l with
 | nil => exact absurd rfl h0
 | cons c r => simp only [List.getD_cons_zero] at h; simp [fa, h]
theorem nI {l : List UInt8} (h : dateB l = true) : 10 ≤ l.length := by
 simp only [dateB, Bool.and_eq_true, decide_eq_true_eq] at h; exact h.1
theorem ls {l : List UInt8} {j : Nat} (h : l.length ≤ j) : l.getD j 0 = 0 := by
 rw [List.getD_eq_getElem?_getD, List.getElem?_eq_none h]; rfl
theorem rF {l : List UInt8} (h0 : l ≠ []) (hc : fJ (l.getD 0 0) = true) : 1 ≤ jC l ∧ jC l ≤ l.length := by
 have h1 := oI (p := fJ) hc h0
 have h2 := iH fJ l
 unfold jC
 split
 · next h =>
   have h3 := iH fJ (l.drop (fa fJ l + 1))
   have h4 : fa fJ l + 1 ≤ l.length := by
    rcases Nat.lt_or_ge (fa fJ l) l.length with h5 | h5
    · omega
    · rw [ls h5, kU] at h; simp at h
   simp only [List.length_drop] at h3
   omega
 · omega
theorem gG {c : UInt8} : fJ c = true ↔ eP c = 5 := (nF c).symm
theorem nN {l : List UInt8} (h0 : l ≠ []) (h : (one l).2.2.1 = 0) : 1 ≤ (one l).2.1 ∧ (one l).2.1 ≤ l.length := by
 unfold one at h ⊢
 by_cases hd : dateB l = true
 · rw [if_pos hd] at h ⊢
   rw [o9 h]
   have := nI hd
   exact ⟨by simp, this⟩
 · rw [if_neg hd] at h ⊢
   by_cases h5 : eP (l.getD 0 0) = 5
   · rw [if_pos h5] at h ⊢
     rw [o9 h]
     exact rF h0 (gG.2 h5)
   · rw [if_neg h5] at h ⊢
     by_cases h3 : eP (l.getD 0 0) = 3
     · rw [if_pos h3] at h ⊢
       rw [o9 h]
       exact ⟨oI (by simp only [mH, decide_eq_true_eq]; exact .inl h3) h0, iH _ _⟩
     · rw [if_neg h3] at h ⊢
       by_cases h4 : eP (l.getD 0 0) = 4
       · rw [if_pos h4] at h ⊢
         rw [o9 h]
         exact ⟨oI (by simp only [jv, decide_eq_true_eq]; exact .inr (.inl h4)) h0, iH _ _⟩
       · rw [if_neg h4] at h ⊢
         by_cases h7 : eP (l.getD 0 0) = 7
         · rw [if_pos h7] at h ⊢
           by_cases hq : eP (l.getD (fa lM (l.drop 1) + 1) 0) = 7
           · rw [if_pos hq]
             refine ⟨by simp, ?_⟩
             rcases Nat.lt_or_ge (fa lM (l.drop 1) + 1) l.length with h6 | h6
             · exact h6
             · rw [ls h6, kU] at hq; simp at hq
           · rw [if_neg hq] at h; simp at h
         · rw [if_neg h7] at h ⊢
           by_cases h2 : 2 ≤ l.length ∧ gY (l.take 2) = true
           · rw [if_pos h2]; exact ⟨by simp, h2.1⟩
           · rw [if_neg h2] at h ⊢
             by_cases h1 : gY (l.take 1) = true
             · rw [if_pos h1]
               cases l with
               | nil => exact absurd rfl h0
               | cons c r => simp
             · rw [if_neg h1] at h; simp at h
theorem ry : ∀ (n m : Nat) (l : List UInt8) (i : Nat) (tk : List fw) (rm : List (List UInt8)), l.length ≤ n → l.length ≤ m → kz n l i tk rm = kz m l i tk rm := by
 intro n
 induction n with
 | zero =>
  intro m l i tk rm h1 h2
  have : l = [] := List.eq_nil_of_length_eq_zero (by omega)
  subst this
  cases m <;> simp [kz]
 | succ n ih =>
  intro m l i tk rm h1 h2
  cases l with
  | nil => cases m <;> simp [kz]
  | cons c r =>
   cases m with
   | zero => simp at h2
   | succ m =>
    simp only [List.length_cons] at h1 h2
    simp only [kz]
    split
    · exact ih m r _ _ _ (by omega) (by omega)
    · split
      · exact ih m _ _ _ _ (by simp; omega) (by simp; omega)
      · split
        · rfl
        · next h =>
          have := nN (l := c :: r) (by simp) (by simpa using h)
          exact ih m _ _ _ _ (by simp only [List.length_drop, List.length_cons]; omega) (by simp only [List.length_drop, List.length_cons]; omega)
theorem sC (i : Nat) (tk : List fw) (rm : List (List UInt8)) : W [] i tk rm = ⟨tk, rm, 0, i⟩ := rfl
theorem jZ (c : UInt8) (r : List UInt8) (i : Nat) (tk : List fw) (rm : List (List UInt8)) (h : gP c = true) : W (c :: r) i tk rm = W r (i + 1) tk rm := by
 simp only [W, List.length_cons, kz, h, if_true]
theorem mW (c : UInt8) (r : List UInt8) (i : Nat) (tk : List fw) (rm : List (List UInt8)) (h : eP c = 8) :
    W (c :: r) i tk rm = W (r.drop (fa gX r)) (i + 1 + fa gX r) tk (rm ++ [r.take (fa gX r)]) := by
 have hb : gP c = false := by simp [gP, h]
 simp only [W, List.length_cons, kz, h, hb, if_true, Bool.false_eq_true, if_false]
 exact ry _ _ _ _ _ _ (by simp) (Nat.le_refl _)
theorem lf (c : UInt8) (r : List UInt8) (i : Nat) (tk : List fw) (rm : List (List UInt8)) (hb : gP c = false) (h8 : eP c ≠ 8) (h : (one (c :: r)).2.2.1 ≠ 0) :
    W (c :: r) i tk rm = ⟨[], [], (one (c :: r)).2.2.1, i + (one (c :: r)).2.2.2⟩ := by
 simp only [W, List.length_cons, kz, hb, Bool.false_eq_true, if_false, h8, h, ne_eq, not_false_eq_true, if_true]
theorem mN (c : UInt8) (r : List UInt8) (i : Nat) (tk : List fw) (rm : List (List UInt8)) (hb : gP c = false) (h8 : eP c ≠ 8) (h : (one (c :: r)).2.2.1 = 0) :
    W (c :: r) i tk rm = W ((c :: r).drop (one (c :: r)).2.1) (i + (one (c :: r)).2.1) (tk ++ [jH (one (c :: r)).1 (one (c :: r)).2.1 (c :: r) i]) rm := by
 have := nN (l := c :: r) (by simp) h
 simp only [W, List.length_cons, kz, hb, Bool.false_eq_true, if_false, h8, h, ne_eq, not_true_eq_false]
 exact ry _ _ _ _ _ _ (by simp only [List.length_drop, List.length_cons]; omega) (Nat.le_refl _)
end Go.Proofs.YtbpphlmakmeoaaaGreatDoor
namespace Go.Proofs.YtbpphlmakmeoaaaGreatDoor
theorem fL (L : List UInt8) (a j : Nat) : (L.drop a).getD j 0 = L.getD (a + j) 0 := by
 simp only [List.getD_eq_getElem?_getD, List.getElem?_drop]
theorem jl (L : List UInt8) (i : Nat) (h : i < L.length) : L.drop i = L.getD i 0 :: L.drop (i + 1) := by
 rw [List.drop_eq_getElem_cons h, List.getD_eq_getElem?_getD, List.getElem?_eq_getElem h]; rfl
def K5 (L : List UInt8) (S : St) (i : Nat) : Prop :=
 (S.fn = 231 ∧ eP (L.getD S.frm 0) = 3 ∧ ∀ j, S.frm ≤ j → j < i → mH (L.getD j 0) = true) ∨
 (S.fn = 232 ∧ eP (L.getD S.frm 0) = 4 ∧ ∀ j, S.frm ≤ j → j < i → jv (L.getD j 0) = true) ∨
 (S.fn = 233 ∧ dateB (L.drop S.frm) = false ∧ ∀ j, S.frm ≤ j → j < i → fJ (L.getD j 0) = true) ∨
 (S.fn = 287 ∧ dateB (L.drop S.frm) = false ∧ ∃ p, S.frm < p ∧ p < i ∧ (∀ j, S.frm ≤ j → j < p → fJ (L.getD j 0) = true) ∧ eP (L.getD p 0) = 9 ∧ fJ (L.getD (p + 1) 0) = true ∧ ∀ j, p < j → j < i → fJ (L.getD j 0) = true) ∨
 (S.fn = 235 ∧ dateB (L.drop S.frm) = true ∧ i ≤ S.frm + 10) ∨
 (S.fn = 236 ∧ eP (L.getD S.frm 0) = 7 ∧ ∀ j, S.frm < j → j < i → lM (L.getD j 0) = true) ∨
 (S.fn = 237 ∧ eP (L.getD S.frm 0) = 8 ∧ ∀ j, S.frm < j → j < i → gX (L.getD j 0) = true) ∨
 (S.fn = 238 ∧ (eP (L.getD S.frm 0) = 9 ∨ eP (L.getD S.frm 0) = 10) ∧ i = S.frm + 1)
def sF (L : List UInt8) (R : Res) (S : St) (i : Nat) : Prop :=
 S.err = 0 ∧ i ≤ L.length ∧
 ((S.fn = 177 ∧ S.tk.length ≤ i ∧ S.rm.length ≤ i ∧ W (L.drop i) i S.tk S.rm = R) ∨
  (S.frm < i ∧ S.tk.length ≤ S.frm ∧ S.rm.length ≤ S.frm ∧ W (L.drop S.frm) S.frm S.tk S.rm = R ∧ K5 L S i))
def Good (L : List UInt8) (R : Res) (S : St) (i : Nat) : Prop :=
 (∃ e : Nat, e ≠ 0 ∧ S.err = (e : Int) ∧ R = ⟨[], [], e, S.place⟩) ∨ sF L R S i
structure Rune (L : List UInt8) (i : Nat) (c : Int) (w : Nat) : Prop where
 lt : i < L.length
 pos : 1 ≤ w
 le : i + w ≤ L.length
 cls : cls c = eP (L.getD i 0)
 high : ∀ j, i ≤ j → j < i + w → 2 ≤ w → eP (L.getD j 0) = 0
theorem Rune.one {L : List UInt8} {i w : Nat} {c : Int} (h : Rune L i c w) (hk : eP (L.getD i 0) ≠ 0) : w = 1 := by
 have := h.pos
 rcases Nat.lt_or_ge w 2 with h1 | h1
 · omega
 · exact absurd (h.high i (Nat.le_refl _) (by omega) h1) hk
theorem jN {c : UInt8} (h1 : eP c ≠ 1) (h2 : eP c ≠ 2) : gP c = false := by simp [gP, h1, h2]
theorem wC (a b : UInt8) (h : gY [a, b] = true) : eP a = 10 := by
 simp only [gY, mx, decide_eq_true_eq, List.mem_cons, List.cons.injEq, and_true, List.not_mem_nil, or_false] at h
 rcases h with h | h | h | h | h | h | h | h | h | h | h | h | h | h | h | h | h | h | h | h | h
 all_goals first | (obtain ⟨rfl, rfl⟩ := h; decide) | (simp at h)
theorem xy (a : UInt8) (h : gY [a] = true) : eP a = 9 ∨ eP a = 10 := by
 simp only [gY, mx, decide_eq_true_eq, List.mem_cons, List.cons.injEq, and_true, List.not_mem_nil, or_false] at h
 rcases h with h | h | h | h | h | h | h | h | h | h | h | h | h | h | h | h | h | h | h | h | h
 all_goals first | (subst h; decide) | (simp at h)
theorem n8 {l : List UInt8} (h : dateB l = true) : eP (l.getD 0 0) = 5 := by
 simp only [dateB, Bool.and_eq_true, List.all_eq_true, List.mem_range] at h
 have := h.2 0 (by omega)
 exact gG.1 (by simpa [jx] using this)
theorem j8 {l : List UInt8} (h : eP (l.getD 0 0) ≠ 5) : dateB l = false := by
 cases hd : dateB l with
 | false => rfl
 | true => exact absurd (n8 hd) h
theorem sL {l : List UInt8} (h : eP (l.getD 0 0) = 0 ∨ eP (l.getD 0 0) = 6) (h0 : l ≠ []) : one l = (0, 0, 41, 0) := by
 cases l with
 | nil => exact absurd rfl h0
 | cons a r =>
  simp only [List.getD_cons_zero] at h
  have hd : dateB (a :: r) = false := j8 (by simp only [List.getD_cons_zero]; omega)
  have h2 : ¬ (2 ≤ (a :: r).length ∧ gY ((a :: r).take 2) = true) := by
   rintro ⟨hl, hm⟩
   cases r with
   | nil => simp at hl
   | cons b r => have := wC a b hm; omega
  have h1 : ¬ gY ((a :: r).take 1) = true := by
   intro hm
   have := xy a hm; omega
  unfold one
  simp only [hd, List.getD_cons_zero, Bool.false_eq_true, if_false, h2, h1]
  rcases h with h | h <;> simp [h]
theorem lA {L : List UInt8} {R : Res} {S : St} {i w : Nat} {c : Int} (hr : Rune L i c w) (he : S.err = 0) (hf : S.fn = 177) (ht : S.tk.length ≤ i) (hm : S.rm.length ≤ i) (hW : W (L.drop i) i S.tk S.rm = R) :
    Good L R (eU L S i c) (i + w) := by
 have Ac := hr.lt
 have Aa := hr.le
 have hk := hr.cls
 have Ab := jl L i hr.lt
 rcases rt c with e | e | e | e | e | e | e | e | e | e | e
 all_goals rw [e] at hk
 case inl =>
  left
  have hb : gP (L.getD i 0) = false := jN (by omega) (by omega)
  have ho : one (L.drop i) = (0, 0, 41, 0) := sL (.inl (by rw [fL]; exact hk.symm)) (by rw [Ab]; simp)
  rw [Ab] at ho hW
  rw [lf _ _ _ _ _ hb (by omega) (by rw [ho]; simp), ho] at hW
  refine ⟨41, by omega, ?_, ?_⟩
  · simp [eU, e]
  · simpa [eU, e] using hW.symm
 case inr.inr.inr.inr.inr.inr.inl =>
  left
  have hb : gP (L.getD i 0) = false := jN (by omega) (by omega)
  have ho : one (L.drop i) = (0, 0, 41, 0) := sL (.inr (by rw [fL]; exact hk.symm)) (by rw [Ab]; simp)
  rw [Ab] at ho hW
  rw [lf _ _ _ _ _ hb (by omega) (by rw [ho]; simp), ho] at hW
  refine ⟨41, by omega, ?_, ?_⟩
  · simp [eU, e]
  · simpa [eU, e] using hW.symm
 all_goals
  have hw := hr.one (by omega)
  subst hw
  right
  simp only [eU, e]
 case inr.inl =>
  simp only [true_or, if_true]
  refine ⟨he, Aa, .inl ⟨hf, Nat.le_succ_of_le ht, Nat.le_succ_of_le hm, ?_⟩⟩
  rw [Ab, jZ _ _ _ _ _ (decide_eq_true (.inl hk.symm))] at hW
  exact hW
 case inr.inr.inl =>
  simp only [or_true, if_true]
  refine ⟨he, Aa, .inl ⟨hf, Nat.le_succ_of_le ht, Nat.le_succ_of_le hm, ?_⟩⟩
  rw [Ab, jZ _ _ _ _ _ (decide_eq_true (.inr hk.symm))] at hW
  exact hW
 case inr.inr.inr.inl =>
  refine ⟨he, Aa, .inr ⟨by simp, ht, hm, hW, .inl ⟨rfl, hk.symm, fun j h1 h2 => ?_⟩⟩⟩
  have : j = i := by simp at h1; omega
  subst this; exact decide_eq_true (.inl hk.symm)
 case inr.inr.inr.inr.inl =>
  refine ⟨he, Aa, .inr ⟨by simp, ht, hm, hW, .inr (.inl ⟨rfl, hk.symm, fun j h1 h2 => ?_⟩)⟩⟩
  have : j = i := by simp at h1; omega
  subst this; exact decide_eq_true (.inr (.inl hk.symm))
 case inr.inr.inr.inr.inr.inl =>
  cases hd : dateB (L.drop i) with
  | true => exact ⟨he, Aa, .inr ⟨by simp, ht, hm, hW, .inr (.inr (.inr (.inr (.inl ⟨by simp, hd, by simp⟩))))⟩⟩
  | false =>
   refine ⟨he, Aa, .inr ⟨by simp, ht, hm, hW, .inr (.inr (.inl ⟨by simp, hd, fun j h1 h2 => ?_⟩))⟩⟩
   have : j = i := by simp at h1; omega
   subst this; exact gG.2 hk.symm
 case inr.inr.inr.inr.inr.inr.inr.inl =>
  refine ⟨he, Aa, .inr ⟨by simp, ht, hm, hW, .inr (.inr (.inr (.inr (.inr (.inl ⟨by simp, hk.symm, fun j h1 h2 => ?_⟩)))))⟩⟩
  simp at h1; omega
 case inr.inr.inr.inr.inr.inr.inr.inr.inl =>
  refine ⟨he, Aa, .inr ⟨by simp, ht, hm, hW, .inr (.inr (.inr (.inr (.inr (.inr (.inl ⟨by simp, hk.symm, fun j h1 h2 => ?_⟩))))))⟩⟩
  simp at h1; omega
 case inr.inr.inr.inr.inr.inr.inr.inr.inr.inl =>
  exact ⟨he, Aa, .inr ⟨by simp, ht, hm, hW, .inr (.inr (.inr (.inr (.inr (.inr (.inr ⟨by simp, .inl hk.symm, by simp⟩))))))⟩⟩
 case inr.inr.inr.inr.inr.inr.inr.inr.inr.inr =>
  exact ⟨he, Aa, .inr ⟨by simp, ht, hm, hW, .inr (.inr (.inr (.inr (.inr (.inr (.inr ⟨by simp, .inr hk.symm, by simp⟩))))))⟩⟩
theorem yW (L : List UInt8) (a b : Nat) : (L.drop a).take (b - a) = sub L a b := rfl
theorem lj {L : List UInt8} {R : Res} {S : St} {kind i w : Nat} {c : Int} (hr : Rune L i c w) (he : S.err = 0) (hlt : S.frm < i) (ht : S.tk.length ≤ S.frm) (hm : S.rm.length ≤ S.frm) (hW : W (L.drop S.frm) S.frm S.tk S.rm = R)
    (h1 : eP (L.getD S.frm 0) ≠ 1) (h2 : eP (L.getD S.frm 0) ≠ 2) (h8 : eP (L.getD S.frm 0) ≠ 8) (hk5 : kind ≠ 5) (ho : one (L.drop S.frm) = fin kind (i - S.frm) (L.drop S.frm)) (hs : ¬ ((kind = 1 ∨ kind = 2) ∧ 32 < i - S.frm)) :
    Good L R (hQ L S kind i c) (i + w) := by
 have Ac := hr.lt
 have hk := hr.cls
 have Ab := jl L S.frm (by omega)
 have hb : gP (L.getD S.frm 0) = false := jN h1 h2
 have hg : (L.drop S.frm).getD (i - S.frm) 0 = L.getD i 0 := by rw [fL]; congr 1; omega
 unfold fin at ho
 rw [if_neg hs, hg] at ho
 by_cases hw : cls c = 3 ∨ cls c = 4 ∨ cls c = 5 ∨ cls c = 6
 · left
   have Aa : jv (L.getD i 0) = true := decide_eq_true (by rw [← hk]; exact hw)
   rw [if_pos Aa] at ho
   rw [Ab] at ho hW
   rw [lf _ _ _ _ _ hb h8 (by rw [ho]; simp), ho] at hW
   refine ⟨41, by omega, by simp [hQ, hw], ?_⟩
   simp only [hQ, hw, if_true]
   rw [← hW]
   simp only [Res.mk.injEq, true_and]
   omega
 · have Aa : ¬ jv (L.getD i 0) = true := fun h => hw (by rw [hk]; exact of_decide_eq_true h)
   rw [if_neg Aa] at ho
   rw [Ab] at ho hW
   rw [mN _ _ _ _ _ hb h8 (by rw [ho]), ho] at hW
   simp only [← Ab, List.drop_drop] at hW
   simp only [hQ, hw, if_false]
   have e1 : S.frm + (i - S.frm) = i := by omega
   rw [e1] at hW
   refine lA hr (S := { S with fn := 177, tk := S.tk ++ [⟨kind, sub L S.frm i, S.frm⟩] }) he rfl (by simp; omega) (by simp; omega) ?_
   simp only [jH, hk5, if_false, yW] at hW
   exact hW
end Go.Proofs.YtbpphlmakmeoaaaGreatDoor
namespace Go.Proofs.YtbpphlmakmeoaaaGreatDoor
theorem jD (p : UInt8 → Bool) (L : List UInt8) (a i : Nat) (h1 : a ≤ i) (h2 : i ≤ L.length) (h : ∀ j, a ≤ j → j < i → p (L.getD j 0) = true) (hn : i < L.length → p (L.getD i 0) = false) : fa p (L.drop a) = i - a := by
 refine rb p _ _ (by simp; omega) (fun j hj => ?_) (fun hj => ?_)
 · rw [fL]; exact h _ (by omega) (by omega)
 · rw [fL]
   simp only [List.length_drop] at hj
   have e : a + (i - a) = i := by omega
   rw [e]; exact hn (by omega)
section
variable {L : List UInt8} {R : Res} {S : St} {i w : Nat} {c : Int}
theorem rB {kind : Nat} (hr : Rune L i c w) (he : S.err = 0) (hlt : S.frm < i) (ht : S.tk.length ≤ S.frm) (hm : S.rm.length ≤ S.frm) (hW : W (L.drop S.frm) S.frm S.tk S.rm = R)
    (h1 : eP (L.getD S.frm 0) ≠ 1) (h2 : eP (L.getD S.frm 0) ≠ 2) (h8 : eP (L.getD S.frm 0) ≠ 8) (hk : kind = 1 ∨ kind = 2) (ho : one (L.drop S.frm) = fin kind (i - S.frm) (L.drop S.frm)) :
    Good L R (jL L S kind i c) (i + w) := by
 have Ab := hr.lt
 have Aa := jl L S.frm (by omega)
 have hb : gP (L.getD S.frm 0) = false := jN h1 h2
 by_cases hl : 32 < i - S.frm
 · left
   have ho' := ho
   unfold fin at ho'
   rw [if_pos ⟨hk, hl⟩] at ho'
   rw [Aa] at ho' hW
   rw [lf _ _ _ _ _ hb h8 (by rw [ho']; simp), ho'] at hW
   refine ⟨5, by omega, by simp [jL, hl], ?_⟩
   simp only [jL, hl, if_true]
   rw [← hW]
   simp
 · simp only [jL, hl, if_false]
   exact lj hr he hlt ht hm hW h1 h2 h8 (by omega) ho (fun h => hl h.2)
theorem xe (hr : Rune L i c w) (he : S.err = 0) (hlt : S.frm < i) (ht : S.tk.length ≤ S.frm) (hm : S.rm.length ≤ S.frm) (hW : W (L.drop S.frm) S.frm S.tk S.rm = R)
    (hf : S.fn = 231) (h3 : eP (L.getD S.frm 0) = 3) (ha : ∀ j, S.frm ≤ j → j < i → mH (L.getD j 0) = true) : Good L R (li L S i c) (i + w) := by
 have Ab := hr.lt
 have hk := hr.cls
 by_cases hc : cls c = 3 ∨ cls c = 5 ∨ cls c = 6
 · have hw := hr.one (by omega)
   subst hw
   simp only [li, hc, if_true]
   refine .inr ⟨he, hr.le, .inr ⟨by omega, ht, hm, hW, .inl ⟨hf, h3, fun j h1 h2 => ?_⟩⟩⟩
   by_cases e : j = i
   · subst e; exact decide_eq_true (by rw [← hk]; exact hc)
   · exact ha j h1 (by omega)
 · simp only [li, hc, if_false]
   refine rB hr he hlt ht hm hW (by omega) (by omega) (by omega) (.inl rfl) ?_
   have Aa : fa mH (L.drop S.frm) = i - S.frm := jD _ L S.frm i (by omega) (by omega) ha (fun _ => decide_eq_false (by rw [← hk]; exact hc))
   have hg : (L.drop S.frm).getD 0 0 = L.getD S.frm 0 := by rw [fL]; rfl
   unfold one
   rw [Aa, j8 (by rw [hg]; omega), hg, h3]
   simp
theorem xZ (hr : Rune L i c w) (he : S.err = 0) (hlt : S.frm < i) (ht : S.tk.length ≤ S.frm) (hm : S.rm.length ≤ S.frm) (hW : W (L.drop S.frm) S.frm S.tk S.rm = R)
    (hf : S.fn = 232) (h3 : eP (L.getD S.frm 0) = 4) (ha : ∀ j, S.frm ≤ j → j < i → jv (L.getD j 0) = true) : Good L R (mP L S i c) (i + w) := by
 have Ab := hr.lt
 have hk := hr.cls
 by_cases hc : cls c = 3 ∨ cls c = 4 ∨ cls c = 5 ∨ cls c = 6
 · have hw := hr.one (by omega)
   subst hw
   simp only [mP, hc, if_true]
   refine .inr ⟨he, hr.le, .inr ⟨by omega, ht, hm, hW, .inr (.inl ⟨hf, h3, fun j h1 h2 => ?_⟩)⟩⟩
   by_cases e : j = i
   · subst e; exact decide_eq_true (by rw [← hk]; exact hc)
   · exact ha j h1 (by omega)
 · simp only [mP, hc, if_false]
   refine rB hr he hlt ht hm hW (by omega) (by omega) (by omega) (.inr rfl) ?_
   have Aa : fa jv (L.drop S.frm) = i - S.frm := jD _ L S.frm i (by omega) (by omega) ha (fun _ => decide_eq_false (by rw [← hk]; exact hc))
   have hg : (L.drop S.frm).getD 0 0 = L.getD S.frm 0 := by rw [fL]; rfl
   unfold one
   rw [Aa, j8 (by rw [hg]; omega), hg, h3]
   simp
theorem tM (hr : Rune L i c w) (he : S.err = 0) (hlt : S.frm < i) (ht : S.tk.length ≤ S.frm) (hm : S.rm.length ≤ S.frm) (hW : W (L.drop S.frm) S.frm S.tk S.rm = R)
    (hf : S.fn = 233) (hd : dateB (L.drop S.frm) = false) (ha : ∀ j, S.frm ≤ j → j < i → fJ (L.getD j 0) = true) : Good L R (ir L S i c) (i + w) := by
 have Ad := hr.lt
 have hk := hr.cls
 have h5 : eP (L.getD S.frm 0) = 5 := gG.1 (ha _ (Nat.le_refl _) hlt)
 by_cases hc : cls c = 5
 · have hw := hr.one (by omega)
   subst hw
   simp only [ir, hc, if_true]
   refine .inr ⟨he, hr.le, .inr ⟨by omega, ht, hm, hW, .inr (.inr (.inl ⟨hf, hd, fun j h1 h2 => ?_⟩))⟩⟩
   by_cases e : j = i
   · subst e; exact gG.2 (by omega)
   · exact ha j h1 (by omega)
 · have Ac : fa fJ (L.drop S.frm) = i - S.frm := jD _ L S.frm i (by omega) (by omega) ha (fun _ => by
    cases hx : fJ (L.getD i 0) with
    | false => rfl
    | true => exact absurd (hk.trans (gG.1 hx)) hc)
   have hg : (L.drop S.frm).getD 0 0 = L.getD S.frm 0 := by rw [fL]; rfl
   have Aa : (L.drop S.frm).getD (i - S.frm) 0 = L.getD i 0 := by rw [fL]; congr 1; omega
   have Ab : (L.drop S.frm).getD (i - S.frm + 1) 0 = L.getD (i + 1) 0 := by rw [fL]; congr 1; omega
   by_cases hp : cls c = 9 ∧ fJ (L.getD (i + 1) 0) = true
   · have hw := hr.one (by omega)
     subst hw
     simp only [ir, hc, if_false]
     rw [if_pos hp]
     exact .inr ⟨he, hr.le, .inr ⟨by simp; omega, ht, hm, hW, .inr (.inr (.inr (.inl ⟨rfl, hd, i, hlt, by omega, ha, by rw [← hk]; exact hp.1, hp.2, fun j h1 h2 => by omega⟩)))⟩⟩
   · simp only [ir, hc, if_false]
     rw [if_neg hp]
     refine lj hr he hlt ht hm hW (by omega) (by omega) (by omega) (by omega) ?_ (by omega)
     have hn : jC (L.drop S.frm) = i - S.frm := by
      unfold jC
      rw [Ac, Aa, Ab, ← hk, if_neg hp]
     unfold one
     rw [hd, hg, h5, hn]
     simp
theorem sj (hr : Rune L i c w) (he : S.err = 0) (hlt : S.frm < i) (ht : S.tk.length ≤ S.frm) (hm : S.rm.length ≤ S.frm) (hW : W (L.drop S.frm) S.frm S.tk S.rm = R)
    (hf : S.fn = 287) (hd : dateB (L.drop S.frm) = false) (p : Nat) (hp1 : S.frm < p) (hp2 : p < i) (ha : ∀ j, S.frm ≤ j → j < p → fJ (L.getD j 0) = true) (h9 : eP (L.getD p 0) = 9) (hq : fJ (L.getD (p + 1) 0) = true)
    (hb : ∀ j, p < j → j < i → fJ (L.getD j 0) = true) : Good L R (i1 L S i c) (i + w) := by
 have Ae := hr.lt
 have hk := hr.cls
 have h5 : eP (L.getD S.frm 0) = 5 := gG.1 (ha _ (Nat.le_refl _) hp1)
 by_cases hc : cls c = 5
 · have hw := hr.one (by omega)
   subst hw
   simp only [i1, hc, if_true]
   refine .inr ⟨he, hr.le, .inr ⟨by omega, ht, hm, hW, .inr (.inr (.inr (.inl ⟨hf, hd, p, hp1, by omega, ha, h9, hq, fun j h1 h2 => ?_⟩)))⟩⟩
   by_cases e : j = i
   · subst e; exact gG.2 (by omega)
   · exact hb j h1 (by omega)
 · have Ac : fa fJ (L.drop S.frm) = p - S.frm := jD _ L S.frm p (by omega) (by omega) ha (fun _ => by
    cases hx : fJ (L.getD p 0) with
    | false => rfl
    | true => have := gG.1 hx; omega)
   have Aa : fa fJ (L.drop (p + 1)) = i - (p + 1) := jD _ L (p + 1) i (by omega) (by omega) (fun j h1 h2 => hb j (by omega) h2) (fun _ => by
    cases hx : fJ (L.getD i 0) with
    | false => rfl
    | true => exact absurd (hk.trans (gG.1 hx)) hc)
   have hg : (L.drop S.frm).getD 0 0 = L.getD S.frm 0 := by rw [fL]; rfl
   have Ab : (L.drop S.frm).getD (p - S.frm) 0 = L.getD p 0 := by rw [fL]; congr 1; omega
   have Ad : (L.drop S.frm).getD (p - S.frm + 1) 0 = L.getD (p + 1) 0 := by rw [fL]; congr 1; omega
   simp only [i1, hc, if_false]
   refine lj hr he hlt ht hm hW (by omega) (by omega) (by omega) (by omega) ?_ (by omega)
   have hn : jC (L.drop S.frm) = i - S.frm := by
    unfold jC
    rw [Ac, Ab, Ad, if_pos ⟨h9, hq⟩, List.drop_drop]
    have e : S.frm + (p - S.frm + 1) = p + 1 := by omega
    rw [e, Aa]; omega
   unfold one
   rw [hd, hg, h5, hn]
   simp
theorem sS {l : List UInt8} (h : dateB l = true) (j : Nat) (hj : j < 10) : eP (l.getD j 0) ≠ 0 ∧ eP (l.getD j 0) ≠ 1 := by
 simp only [dateB, Bool.and_eq_true, List.all_eq_true, List.mem_range] at h
 have := h.2 j hj
 unfold jx at this
 split at this
 · have e : (l.getD j 0).toNat = 45 := of_decide_eq_true this
   have e2 : eP (l.getD j 0) = 10 := by unfold eP; rw [e]; rfl
   omega
 · have := gG.1 this; omega
theorem wk (hr : Rune L i c w) (he : S.err = 0) (hlt : S.frm < i) (ht : S.tk.length ≤ S.frm) (hm : S.rm.length ≤ S.frm) (hW : W (L.drop S.frm) S.frm S.tk S.rm = R)
    (hf : S.fn = 235) (hd : dateB (L.drop S.frm) = true) (hi : i ≤ S.frm + 10) : Good L R (ld L S i c) (i + w) := by
 have Aa := hr.lt
 have hk := hr.cls
 have hg : (L.drop S.frm).getD 0 0 = L.getD S.frm 0 := by rw [fL]; rfl
 have h5 : eP (L.getD S.frm 0) = 5 := by rw [← hg]; exact n8 hd
 by_cases hc : i = S.frm + 10
 · simp only [ld, hc, if_true]
   rw [← hc]
   refine lj hr he hlt ht hm hW (by omega) (by omega) (by omega) (by omega) ?_ (by omega)
   have e : i - S.frm = 10 := by omega
   unfold one
   rw [hd, e]; simp
 · simp only [ld, hc, if_false]
   have h0 := (sS hd (i - S.frm) (by omega)).1
   rw [fL] at h0
   have e : S.frm + (i - S.frm) = i := by omega
   rw [e] at h0
   have hw := hr.one h0
   subst hw
   exact .inr ⟨he, hr.le, .inr ⟨by omega, ht, hm, hW, .inr (.inr (.inr (.inr (.inl ⟨hf, hd, by omega⟩))))⟩⟩
theorem vN (hr : Rune L i c w) (he : S.err = 0) (hlt : S.frm < i) (ht : S.tk.length ≤ S.frm) (hm : S.rm.length ≤ S.frm) (hW : W (L.drop S.frm) S.frm S.tk S.rm = R)
    (hf : S.fn = 236) (h7 : eP (L.getD S.frm 0) = 7) (ha : ∀ j, S.frm < j → j < i → lM (L.getD j 0) = true) : Good L R (jg L S i c) (i + w) := by
 have Ae := hr.lt
 have hk := hr.cls
 have Aa := jl L S.frm (by omega)
 have hb : gP (L.getD S.frm 0) = false := jN (by omega) (by omega)
 have hg : (L.drop S.frm).getD 0 0 = L.getD S.frm 0 := by rw [fL]; rfl
 by_cases hc : cls c = 7 ∨ cls c = 1
 · have Ac : fa lM ((L.drop S.frm).drop 1) = i - (S.frm + 1) := by
    rw [List.drop_drop]
    exact jD _ L (S.frm + 1) i (by omega) (by omega) (fun j h1 h2 => ha j (by omega) h2) (fun _ => decide_eq_false (by rw [← hk]; omega))
   have Ab : (L.drop S.frm).getD (i - (S.frm + 1) + 1) 0 = L.getD i 0 := by rw [fL]; congr 1; omega
   have hw := hr.one (by omega)
   subst hw
   have ho : one (L.drop S.frm) = if cls c = 7 then (5, i - (S.frm + 1) + 2, 0, 0) else (0, 0, 42, 0) := by
    unfold one
    rw [j8 (by rw [hg]; omega), hg, h7, Ac, Ab, ← hk]
    simp
   rcases hc with hc | hc
   · simp only [jg, hc, if_true]
     rw [hc, if_pos rfl] at ho
     rw [Aa] at ho hW
     rw [mN _ _ _ _ _ hb (by omega) (by rw [ho]), ho] at hW
     simp only [← Aa, List.drop_drop] at hW
     have e1 : S.frm + (i - (S.frm + 1) + 2) = i + 1 := by omega
     rw [e1] at hW
     refine .inr ⟨he, hr.le, .inl ⟨rfl, by simp; omega, by simp; omega, ?_⟩⟩
     simp only [jH, if_true] at hW
     rw [← hW]
     have e2 : ((L.drop S.frm).take (i - (S.frm + 1) + 2 - 1)).drop 1 = sub L (S.frm + 1) i := by
      unfold sub
      rw [List.drop_take, List.drop_drop]
      congr 1
     rw [e2]
   · left
     rw [hc, if_neg (by decide)] at ho
     rw [Aa] at ho hW
     rw [lf _ _ _ _ _ hb (by omega) (by rw [ho]; simp), ho] at hW
     refine ⟨42, by omega, by simp [jg, hc], ?_⟩
     rw [← hW]
     simp [jg, hc]
 · have h7' : ¬ cls c = 7 := fun h => hc (.inl h)
   have h1' : ¬ cls c = 1 := fun h => hc (.inr h)
   simp only [jg, h7', h1', if_false]
   have Ad := hr.le
   refine .inr ⟨he, hr.le, .inr ⟨by omega, ht, hm, hW, .inr (.inr (.inr (.inr (.inr (.inl ⟨hf, h7, fun j h1 h2 => ?_⟩)))))⟩⟩
   by_cases e : j < i
   · exact ha j h1 e
   · by_cases e2 : j = i
     · subst e2; exact decide_eq_true (by rw [← hk]; exact ⟨h7', h1'⟩)
     · have := hr.high j (by omega) h2 (by omega)
       exact decide_eq_true (by rw [this]; decide)
theorem ue (hr : Rune L i c w) (he : S.err = 0) (hlt : S.frm < i) (ht : S.tk.length ≤ S.frm) (hm : S.rm.length ≤ S.frm) (hW : W (L.drop S.frm) S.frm S.tk S.rm = R)
    (hf : S.fn = 237) (h8 : eP (L.getD S.frm 0) = 8) (ha : ∀ j, S.frm < j → j < i → gX (L.getD j 0) = true) : Good L R (jO L S i c) (i + w) := by
 have Aa := hr.lt
 have hk := hr.cls
 have Ac := jl L S.frm (by omega)
 by_cases hc : cls c = 1
 · have Ab : fa gX (L.drop (S.frm + 1)) = i - (S.frm + 1) :=
    jD _ L (S.frm + 1) i (by omega) (by omega) (fun j h1 h2 => ha j (by omega) h2) (fun _ => decide_eq_false (by rw [← hk]; omega))
   have hw := hr.one (by omega)
   subst hw
   simp only [jO, hc, if_true]
   rw [Ac, mW _ _ _ _ _ h8, Ab, List.drop_drop] at hW
   have e1 : S.frm + 1 + (i - (S.frm + 1)) = i := by omega
   rw [e1] at hW
   refine .inr ⟨he, hr.le, .inl ⟨rfl, by simp; omega, by simp; omega, ?_⟩⟩
   rw [jl L i Aa, jZ _ _ _ _ _ (decide_eq_true (.inl (by rw [← hk]; exact hc)))] at hW
   exact hW
 · simp only [jO, hc, if_false]
   refine .inr ⟨he, hr.le, .inr ⟨by have := hr.pos; omega, ht, hm, hW, .inr (.inr (.inr (.inr (.inr (.inr (.inl ⟨hf, h8, fun j h1 h2 => ?_⟩))))))⟩⟩
   by_cases e : j < i
   · exact ha j h1 e
   · by_cases e2 : j = i
     · subst e2; exact decide_eq_true (by rw [← hk]; exact hc)
     · have := hr.high j (by omega) h2 (by omega)
       exact decide_eq_true (by rw [this]; decide)
theorem wf (hr : Rune L i c w) (he : S.err = 0) (ht : S.tk.length ≤ S.frm) (hm : S.rm.length ≤ S.frm) (hW : W (L.drop S.frm) S.frm S.tk S.rm = R)
    (h9 : eP (L.getD S.frm 0) = 9 ∨ eP (L.getD S.frm 0) = 10) (hi : i = S.frm + 1) : Good L R (lb L S i c) (i + w) := by
 have Ad := hr.lt
 have hk := hr.cls
 have Aa := jl L S.frm (by omega)
 have Ab := jl L i Ad
 have hb : gP (L.getD S.frm 0) = false := jN (by omega) (by omega)
 have hg : (L.drop S.frm).getD 0 0 = L.getD S.frm 0 := by rw [fL]; rfl
 have e2 : (L.drop S.frm).take 2 = sub L S.frm (i + 1) := by unfold sub; congr 1; omega
 have e1 : (L.drop S.frm).take 1 = sub L S.frm i := by unfold sub; congr 1; omega
 have ho : one (L.drop S.frm) = if gY (sub L S.frm (i + 1)) = true then (6, 2, 0, 0) else if gY (sub L S.frm i) = true then (6, 1, 0, 0) else (0, 0, 41, 0) := by
  unfold one
  rw [j8 (by rw [hg]; omega), hg, e2, e1]
  have hl : 2 ≤ (L.drop S.frm).length := by simp; omega
  rcases h9 with h | h <;> rw [h, if_neg (by decide), if_neg (by decide), if_neg (by decide), if_neg (by decide), if_neg (by decide)] <;> simp only [hl, true_and]
 by_cases h2 : gY (sub L S.frm (i + 1)) = true
 · have Ac : eP (L.getD i 0) ≠ 0 := by
    have hs : sub L S.frm (i + 1) = [L.getD S.frm 0, L.getD i 0] := by
     rw [← e2, Aa, ← hi, Ab]; rfl
    rw [hs] at h2
    simp only [gY, mx, decide_eq_true_eq, List.mem_cons, List.cons.injEq, and_true, List.not_mem_nil, or_false] at h2
    generalize L.getD S.frm 0 = a at h2
    generalize L.getD i 0 = b at h2 ⊢
    rcases h2 with h | h | h | h | h | h | h | h | h | h | h | h | h | h | h | h | h | h | h | h | h
    all_goals first | (obtain ⟨rfl, rfl⟩ := h; decide) | (simp at h)
   have hw := hr.one Ac
   subst hw
   simp only [lb, h2, if_true]
   rw [if_pos h2] at ho
   rw [Aa] at ho hW
   rw [mN _ _ _ _ _ hb (by omega) (by rw [ho]), ho] at hW
   simp only [← Aa, List.drop_drop] at hW
   have e3 : S.frm + 2 = i + 1 := by omega
   rw [e3] at hW
   refine .inr ⟨he, hr.le, .inl ⟨rfl, by simp; omega, by simp; omega, ?_⟩⟩
   simp only [jH, e2] at hW
   exact hW
 · by_cases h1 : gY (sub L S.frm i) = true
   · simp only [lb, h2, h1, if_true]
     rw [if_neg h2, if_pos h1] at ho
     rw [Aa] at ho hW
     rw [mN _ _ _ _ _ hb (by omega) (by rw [ho]), ho] at hW
     simp only [← Aa, List.drop_drop] at hW
     rw [← hi] at hW
     refine lA hr (S := { S with fn := 177, tk := S.tk ++ [⟨6, sub L S.frm i, S.frm⟩] }) he rfl (by simp; omega) (by simp; omega) ?_
     simp only [jH, e1] at hW
     exact hW
   · left
     rw [if_neg h2, if_neg h1] at ho
     rw [Aa] at ho hW
     rw [lf _ _ _ _ _ hb (by omega) (by rw [ho]; simp), ho] at hW
     refine ⟨41, by omega, by simp [lb, h1, h2], ?_⟩
     rw [← hW]
     simp [lb, h1, h2]
end
end Go.Proofs.YtbpphlmakmeoaaaGreatDoor
namespace Go.Proofs.YtbpphlmakmeoaaaGreatDoor
theorem jj (l z : List UInt8) (j : Nat) (h : j < l.length) : (l ++ z).getD j 0 = l.getD j 0 := by
 simp only [List.getD_eq_getElem?_getD, List.getElem?_append_left h]
theorem lG (l z : List UInt8) (b : UInt8) : (l ++ b :: z).getD l.length 0 = b := by
 simp [List.getD_eq_getElem?_getD]
theorem kw (p : UInt8 → Bool) (l z : List UInt8) (b : UInt8) (h : p b = false) : fa p (l ++ b :: z) = fa p l := by
 refine rb p _ _ (by have := iH p l; simp; omega) (fun j hj => ?_) (fun _ => ?_)
 · rw [jj _ _ _ (by have := iH p l; omega)]; exact uC p l j hj
 · rcases Nat.lt_or_ge (fa p l) l.length with h1 | h1
   · rw [jj _ _ _ h1]; exact sQ p l h1
   · have e : fa p l = l.length := by have := iH p l; omega
     rw [e, lG]; exact h
theorem wN (p : UInt8 → Bool) (l z : List UInt8) (h : fa p l < l.length) : fa p (l ++ z) = fa p l := by
 refine rb p _ _ (by simp; omega) (fun j hj => ?_) (fun _ => ?_)
 · rw [jj _ _ _ (by omega)]; exact uC p l j hj
 · rw [jj _ _ _ h]; exact sQ p l h
theorem vi (l z : List UInt8) (h : 10 ≤ l.length) : dateB (l ++ z) = dateB l := by
 have e : (List.range 10).all (fun j => jx j ((l ++ z).getD j 0)) = (List.range 10).all (fun j => jx j (l.getD j 0)) := by
  rw [Bool.eq_iff_iff]
  simp only [List.all_eq_true, List.mem_range]
  constructor <;> intro h1 j hj
  · have := h1 j hj; rwa [jj _ _ _ (by omega)] at this
  · have := h1 j hj; rwa [jj _ _ _ (by omega)]
 have h1 : decide (10 ≤ (l ++ z).length) = true := decide_eq_true (by simp; omega)
 have h2 : decide (10 ≤ l.length) = true := decide_eq_true h
 unfold dateB
 rw [e, h1, h2]
theorem zR (j : Nat) (b : UInt8) (h : eP b = 1 ∨ eP b = 2) : jx j b = false := by
 unfold jx
 split
 · refine decide_eq_false fun e => ?_
   have : eP b = 10 := by unfold eP; rw [e]; rfl
   omega
 · cases hx : fJ b with
   | false => rfl
   | true => have := gG.1 hx; omega
theorem wv (l z : List UInt8) (b : UInt8) (h : eP b = 1 ∨ eP b = 2) : dateB (l ++ b :: z) = dateB l := by
 rcases Nat.lt_or_ge l.length 10 with h1 | h1
 · have e1 : dateB l = false := by
    unfold dateB
    rw [decide_eq_false (by omega)]; rfl
   rw [e1]
   unfold dateB
   have e2 : (List.range 10).all (fun j => jx j ((l ++ b :: z).getD j 0)) = false := by
    rw [List.all_eq_false]
    exact ⟨l.length, by simpa using h1, by rw [lG, zR _ _ h]; simp⟩
   rw [e2, Bool.and_false]
 · exact vi l _ h1
theorem mf (l z : List UInt8) (b : UInt8) (h : eP b = 1 ∨ eP b = 2) (k : Int) (h0 : k ≠ 0) (h1 : k ≠ 1) (h2 : k ≠ 2) (j : Nat) (hj : j ≤ l.length) : eP ((l ++ b :: z).getD j 0) = k ↔ eP (l.getD j 0) = k := by
 rcases Nat.lt_or_ge j l.length with h3 | h3
 · rw [jj _ _ _ h3]
 · have e : j = l.length := by omega
   subst e
   rw [lG, ls (Nat.le_refl _), kU]
   omega
theorem yE (l z : List UInt8) (b : UInt8) (h : eP b = 1 ∨ eP b = 2) (j : Nat) (hj : j ≤ l.length) : fJ ((l ++ b :: z).getD j 0) = true ↔ fJ (l.getD j 0) = true := by
 rw [gG, gG]
 exact mf l z b h 5 (by decide) (by decide) (by decide) j hj
theorem wx (l z : List UInt8) (b : UInt8) (h : eP b = 1 ∨ eP b = 2) (j : Nat) (hj : j ≤ l.length) : jv ((l ++ b :: z).getD j 0) = true ↔ jv (l.getD j 0) = true := by
 have e := fun k h0 h1 h2 => mf l z b h k h0 h1 h2 j hj
 simp only [jv, decide_eq_true_eq]
 rw [e 3 (by decide) (by decide) (by decide), e 4 (by decide) (by decide) (by decide), e 5 (by decide) (by decide) (by decide), e 6 (by decide) (by decide) (by decide)]
theorem nQ (kind n : Nat) (l z : List UInt8) (b : UInt8) (h : eP b = 1 ∨ eP b = 2) (hn : n ≤ l.length) : fin kind n (l ++ b :: z) = fin kind n l := by
 unfold fin
 have := wx l z b h n hn
 by_cases h1 : jv (l.getD n 0) = true
 · rw [if_pos h1, if_pos (this.2 h1)]
 · rw [if_neg h1, if_neg (fun h => h1 (this.1 h))]
theorem oy {b : UInt8} (h : eP b = 1 ∨ eP b = 2) : fJ b = false ∧ mH b = false ∧ jv b = false := by
 refine ⟨?_, decide_eq_false (by omega), decide_eq_false (by omega)⟩
 cases hx : fJ b with
 | false => rfl
 | true => have := gG.1 hx; omega
theorem vp (l z : List UInt8) (b : UInt8) (h : eP b = 1 ∨ eP b = 2) : jC (l ++ b :: z) = jC l := by
 have hs := kw fJ l z b (oy h).1
 have hl := iH fJ l
 unfold jC
 rw [hs]
 by_cases h9 : eP (l.getD (fa fJ l) 0) = 9
 · have Aa : fa fJ l < l.length := by
    rcases Nat.lt_or_ge (fa fJ l) l.length with h5 | h5
    · exact h5
    · rw [ls h5, kU] at h9; simp at h9
   have h9' := (mf l z b h 9 (by decide) (by decide) (by decide) (fa fJ l) hl).2 h9
   have hd := yE l z b h (fa fJ l + 1) (by omega)
   by_cases h5 : fJ (l.getD (fa fJ l + 1) 0) = true
   · rw [if_pos ⟨h9', hd.2 h5⟩, if_pos ⟨h9, h5⟩, List.drop_append_of_le_length (by omega), kw _ _ _ _ (oy h).1]
   · rw [if_neg (fun h => h5 (hd.1 h.2)), if_neg (fun h => h5 h.2)]
 · rw [if_neg (fun h' => h9 ((mf l z b h 9 (by decide) (by decide) (by decide) (fa fJ l) hl).1 h'.1)), if_neg (fun h => h9 h.1)]
theorem wG (a b : UInt8) (h : eP b = 1 ∨ eP b = 2) : gY [a, b] = false := by
 cases hm : gY [a, b] with
 | false => rfl
 | true =>
  simp only [gY, mx, decide_eq_true_eq, List.mem_cons, List.cons.injEq, and_true, List.not_mem_nil, or_false] at hm
  exfalso
  rcases hm with h1 | h1 | h1 | h1 | h1 | h1 | h1 | h1 | h1 | h1 | h1 | h1 | h1 | h1 | h1 | h1 | h1 | h1 | h1 | h1 | h1
  all_goals first | (obtain ⟨rfl, rfl⟩ := h1; revert h; decide) | (simp at h1)
theorem zE (l z : List UInt8) (b : UInt8) (h0 : l ≠ []) (h : eP b = 1 ∨ eP b = 2) (ho : eP b = 1 ∨ (one l).2.2.1 = 0 ∨ eP (l.getD 0 0) ≠ 7) : one (l ++ b :: z) = one l := by
 have hg : (l ++ b :: z).getD 0 0 = l.getD 0 0 := jj _ _ _ (List.length_pos_iff.2 h0)
 have Ab : 1 ≤ l.length := List.length_pos_iff.2 h0
 have hn := oy h
 unfold one at ho ⊢
 rw [wv l z b h, hg, vp l z b h, kw mH l z b hn.2.1, kw jv l z b hn.2.2]
 by_cases hd : dateB l = true
 · rw [if_pos hd, if_pos hd]
   exact nQ _ _ _ _ _ h (nI hd)
 · rw [if_neg hd] at ho ⊢
   rw [if_neg hd]
   by_cases h5 : eP (l.getD 0 0) = 5
   · rw [if_pos h5, if_pos h5]
     exact nQ _ _ _ _ _ h (rF h0 (gG.2 h5)).2
   · rw [if_neg h5] at ho ⊢
     rw [if_neg h5]
     by_cases h3 : eP (l.getD 0 0) = 3
     · rw [if_pos h3, if_pos h3]
       exact nQ _ _ _ _ _ h (iH _ _)
     · rw [if_neg h3] at ho ⊢
       rw [if_neg h3]
       by_cases h4 : eP (l.getD 0 0) = 4
       · rw [if_pos h4, if_pos h4]
         exact nQ _ _ _ _ _ h (iH _ _)
       · rw [if_neg h4] at ho ⊢
         rw [if_neg h4]
         by_cases h7 : eP (l.getD 0 0) = 7
         · rw [if_pos h7] at ho ⊢
           rw [if_pos h7]
           have Aa := iH lM (l.drop 1)
           simp only [List.length_drop] at Aa
           have hs : fa lM ((l ++ b :: z).drop 1) = fa lM (l.drop 1) := by
            rw [List.drop_append_of_le_length Ab]
            rcases ho with ho | ho | ho
            · exact kw _ _ _ _ (decide_eq_false (by omega))
            · refine wN _ _ _ ?_
              by_cases hq : eP (l.getD (fa lM (l.drop 1) + 1) 0) = 7
              · rcases Nat.lt_or_ge (fa lM (l.drop 1) + 1) l.length with h6 | h6
                · rw [List.length_drop]; omega
                · rw [ls h6, kU] at hq; simp at hq
              · rw [if_neg hq] at ho; simp at ho
            · exact absurd h7 ho
           rw [hs]
           have hc := mf l z b h 7 (by decide) (by decide) (by decide) (fa lM (l.drop 1) + 1) (by omega)
           by_cases hq : eP (l.getD (fa lM (l.drop 1) + 1) 0) = 7
           · rw [if_pos hq, if_pos (hc.2 hq)]
           · rw [if_neg hq, if_neg (fun h => hq (hc.1 h))]
         · rw [if_neg h7, if_neg h7]
           cases l with
           | nil => exact absurd rfl h0
           | cons a r =>
            cases r with
            | nil =>
             have e1 : ([a] ++ b :: z).take 2 = [a, b] := rfl
             have e2 : ([a] ++ b :: z).take 1 = [a].take 1 := rfl
             rw [e1, e2, wG a b h]
             simp
            | cons a' r =>
             have e1 : ((a :: a' :: r) ++ b :: z).take 2 = (a :: a' :: r).take 2 := rfl
             have e2 : ((a :: a' :: r) ++ b :: z).take 1 = (a :: a' :: r).take 1 := rfl
             rw [e1, e2]
             simp
theorem xL : gX 10 = false := by decide
theorem pP : eP 10 = 1 := by decide
theorem vo (y : List UInt8) : ∀ (n : Nat) (l : List UInt8), l.length ≤ n → ∀ (i : Nat) (tk : List fw) (rm : List (List UInt8)),
    ((W l i tk rm).err ≠ 0 ∧ (W l i tk rm).tk = [] ∧ (W l i tk rm).rm = [] ∧ W (l ++ 10 :: y) i tk rm = W l i tk rm) ∨ ∃ tk' rm', W l i tk rm = ⟨tk', rm', 0, i + l.length⟩ ∧ W (l ++ 10 :: y) i tk rm = W y (i + l.length + 1) tk' rm' := by
 intro n
 induction n with
 | zero =>
  intro l hl i tk rm
  have : l = [] := List.eq_nil_of_length_eq_zero (by omega)
  subst this
  exact .inr ⟨tk, rm, rfl, jZ _ _ _ _ _ (by decide)⟩
 | succ n ih =>
  intro l hl i tk rm
  cases l with
  | nil => exact .inr ⟨tk, rm, rfl, jZ _ _ _ _ _ (by decide)⟩
  | cons c r =>
   simp only [List.length_cons] at hl
   by_cases hb : gP c = true
   · rw [List.cons_append, jZ _ _ _ _ _ hb, jZ _ _ _ _ _ hb]
     have e : i + (c :: r).length = i + 1 + r.length := by simp; omega
     rw [e]
     exact ih r (by omega) (i + 1) tk rm
   · have hb' : gP c = false := by simpa using hb
     by_cases h8 : eP c = 8
     · have hs := kw gX r y 10 xL
       have Ab := iH gX r
       rw [List.cons_append, mW _ _ _ _ _ h8, mW _ _ _ _ _ h8, hs, List.drop_append_of_le_length Ab, List.take_append_of_le_length Ab]
       have := ih (r.drop (fa gX r)) (by simp; omega) (i + 1 + fa gX r) tk (rm ++ [r.take (fa gX r)])
       have e : i + (c :: r).length = i + 1 + fa gX r + (r.drop (fa gX r)).length := by simp; omega
       rw [e]
       exact this
     · have ho : one (c :: (r ++ 10 :: y)) = one (c :: r) := zE (c :: r) y 10 (by simp) (.inl pP) (.inl pP)
       by_cases he : (one (c :: r)).2.2.1 = 0
       · have Aa := nN (l := c :: r) (by simp) he
         have eA := mN c (r ++ 10 :: y) i tk rm hb' h8 (by rw [ho]; exact he)
         have eB := mN c r i tk rm hb' h8 he
         rw [List.cons_append, eA, eB, ho, ← List.cons_append, List.drop_append_of_le_length Aa.2]
         have et : jH (one (c :: r)).1 (one (c :: r)).2.1 ((c :: r) ++ 10 :: y) i = jH (one (c :: r)).1 (one (c :: r)).2.1 (c :: r) i := by
          unfold jH
          rw [List.take_append_of_le_length (by omega), List.take_append_of_le_length Aa.2]
         rw [et]
         have := ih ((c :: r).drop (one (c :: r)).2.1) (by simp only [List.length_drop, List.length_cons]; omega) (i + (one (c :: r)).2.1) (tk ++ [jH (one (c :: r)).1 (one (c :: r)).2.1 (c :: r) i]) rm
         have e : i + (c :: r).length = i + (one (c :: r)).2.1 + ((c :: r).drop (one (c :: r)).2.1).length := by simp only [List.length_drop]; omega
         rw [e]
         exact this
       · have eA := lf c (r ++ 10 :: y) i tk rm hb' h8 (by rw [ho]; exact he)
         have eB := lf c r i tk rm hb' h8 he
         rw [List.cons_append, eA, eB, ho]
         exact .inl ⟨he, rfl, rfl, rfl⟩
def jb (s : List UInt8) : Res := W s 0 [] []
theorem lm (s : List UInt8) : ((jb s).err ≠ 0 ∧ (jb s).tk = [] ∧ (jb s).rm = [] ∧ W (s ++ [10]) 0 [] [] = jb s) ∨ ((jb s).err = 0 ∧ (jb s).place = s.length ∧ W (s ++ [10]) 0 [] [] = ⟨(jb s).tk, (jb s).rm, 0, s.length + 1⟩) := by
 rcases vo [] s.length s (Nat.le_refl _) 0 [] [] with h | ⟨tk, rm, h1, h2⟩
 · exact .inl h
 · right
   have e : jb s = ⟨tk, rm, 0, s.length⟩ := by unfold jb; rw [h1]; simp
   rw [e]
   exact ⟨rfl, rfl, by rw [h2, sC]; simp⟩
def mM (L : List UInt8) (S : St) (i : Nat) (c : Int) : St :=
 if S.fn = 177 then eU L S i c
 else if S.fn = 231 then li L S i c
 else if S.fn = 232 then mP L S i c
 else if S.fn = 233 then ir L S i c
 else if S.fn = 287 then i1 L S i c
 else if S.fn = 235 then ld L S i c
 else if S.fn = 236 then jg L S i c
 else if S.fn = 237 then jO L S i c
 else lb L S i c
theorem we {L : List UInt8} {R : Res} {S : St} {i w : Nat} {c : Int} (hr : Rune L i c w) (h : sF L R S i) : Good L R (mM L S i c) (i + w) := by
 obtain ⟨he, Ab, ⟨hf, ht, hm, hW⟩ | ⟨Aa, ht, hm, hW, hk⟩⟩ := h
 · unfold mM; rw [if_pos hf]; exact lA hr he hf ht hm hW
 · rcases hk with ⟨hf, h1, h2⟩ | ⟨hf, h1, h2⟩ | ⟨hf, h1, h2⟩ | ⟨hf, h1, p, h2, h3, h4, h5, h6, h7⟩ | ⟨hf, h1, h2⟩ | ⟨hf, h1, h2⟩ | ⟨hf, h1, h2⟩ | ⟨hf, h1, h2⟩
   all_goals simp only [mM, hf]
   · exact xe hr he Aa ht hm hW hf h1 h2
   · exact xZ hr he Aa ht hm hW hf h1 h2
   · exact tM hr he Aa ht hm hW hf h1 h2
   · exact sj hr he Aa ht hm hW hf h1 p h2 h3 h4 h5 h6 h7
   · exact wk hr he Aa ht hm hW hf h1 h2
   · exact vN hr he Aa ht hm hW hf h1 h2
   · exact ue hr he Aa ht hm hW hf h1 h2
   · exact wf hr he ht hm hW h1 h2
theorem zG {s : List UInt8} {R : Res} {S : St} {i : Nat} (h : sF (s ++ [10]) R S i) (hi : i = s.length + 1) : R = ⟨S.tk, S.rm, 0, s.length + 1⟩ := by
 obtain ⟨he, Ad, ⟨hf, ht, hm, hW⟩ | ⟨Ac, ht, hm, hW, hk⟩⟩ := h
 · rw [← hW, hi]
   have e : (s ++ [10]).drop (s.length + 1) = [] := List.drop_eq_nil_of_le (by simp)
   rw [e, sC]
 · exfalso
   have Aa : (s ++ [10]).getD s.length 0 = 10 := lG s [] 10
   have Ab : S.frm ≤ s.length := by omega
   rcases hk with ⟨hf, h1, h2⟩ | ⟨hf, h1, h2⟩ | ⟨hf, h1, h2⟩ | ⟨hf, h1, p, h2, h3, h4, h5, h6, h7⟩ | ⟨hf, h1, h2⟩ | ⟨hf, h1, h2⟩ | ⟨hf, h1, h2⟩ | ⟨hf, h1, h2⟩
   · have := h2 s.length Ab (by omega); rw [Aa] at this; revert this; decide
   · have := h2 s.length Ab (by omega); rw [Aa] at this; revert this; decide
   · have := h2 s.length Ab (by omega); rw [Aa] at this; revert this; decide
   · by_cases hp : p = s.length
     · subst hp; rw [Aa] at h5; revert h5; decide
     · have := h7 s.length (by omega) (by omega); rw [Aa] at this; revert this; decide
   · have hl := nI h1
     simp only [List.length_drop, List.length_append, List.length_cons, List.length_nil] at hl
     have := (sS h1 9 (by omega)).2
     rw [fL] at this
     have e : S.frm + 9 = s.length := by omega
     rw [e, Aa] at this
     exact this pP
   · by_cases hp : S.frm = s.length
     · rw [hp, Aa] at h1; revert h1; decide
     · have := h2 s.length (by omega) (by omega); rw [Aa] at this; revert this; decide
   · by_cases hp : S.frm = s.length
     · rw [hp, Aa] at h1; revert h1; decide
     · have := h2 s.length (by omega) (by omega); rw [Aa] at this; revert this; decide
   · have e : S.frm = s.length := by omega
     rw [e, Aa] at h1; revert h1; decide
end Go.Proofs.YtbpphlmakmeoaaaGreatDoor
