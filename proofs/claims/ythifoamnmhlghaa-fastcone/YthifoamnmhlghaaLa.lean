/- Updates are changes: what all entries come to, beside their count. PLAIN. -/
import Derived.Test.YthifoamnmhlghaaHd
namespace Go.Proofs.Ythifoamnmhlghaa.Fa

section
variable {T : Th} {F : List Int} {n k : Nat} {m : List Int} {G G' : Gho} {e e' e2 : Es}
def b2i (b : Bool) : Int := if b then 1 else 0
def sumL (f : Int → Int) : List Int → Int
  | [] => 0
  | x :: l => f x + sumL f l
theorem sumK_one {f g : Nat → Int} {i : Nat} : ∀ {k : Nat}, i < k → (∀ j, j < k → j ≠ i → g j = f j) → sumK g k = sumK f k + (g i - f i)
  | 0, h, _ => by omega
  | k + 1, h, hj => by
    show sumK g k + g k = sumK f k + f k + (g i - f i)
    by_cases e : i = k
    · subst e
      rw [sumK_congr fun j hj2 => hj j (by omega) (by omega)]
      omega
    · rw [sumK_one (k := k) (by omega) fun j h1 h2 => hj j (by omega) h2, hj k (by omega) fun e2 => e e2.symm]
      omega
theorem sumL_congr {f g : Int → Int} : ∀ {l : List Int}, (∀ y ∈ l, g y = f y) → sumL g l = sumL f l
  | [], _ => rfl
  | x :: l, h => by
    show g x + sumL g l = f x + sumL f l
    rw [h x List.mem_cons_self, sumL_congr fun y hy => h y (List.mem_cons_of_mem _ hy)]
theorem sumL_one {f g : Int → Int} {x : Int} : ∀ {l : List Int}, l.Nodup → x ∈ l → (∀ y ∈ l, y ≠ x → g y = f y) → sumL g l = sumL f l + (g x - f x)
  | [], _, h, _ => by cases h
  | y :: l, hn, h, hj => by
    obtain ⟨h1, h2⟩ := List.nodup_cons.1 hn
    show g y + sumL g l = f y + sumL f l + (g x - f x)
    by_cases e : x = y
    · subst e
      rw [sumL_congr fun z hz => hj z (List.mem_cons_of_mem _ hz) fun e2 => h1 (e2 ▸ hz)]
      omega
    · rw [sumL_one h2 ((List.mem_cons.1 h).resolve_left e) fun z hz hne => hj z (List.mem_cons_of_mem _ hz) hne, hj y List.mem_cons_self fun e2 => e e2.symm]
      omega
def vM (T : Th) (e : Es) (b : Bool) : Int := sumK (fun r => if kindB T (kW b) r then b2i (e.rf b r) - e.ms b r else 0) T.rules.length
def vO (n : Nat) (e : Es) (b : Bool) : Int := sumK (fun q => 0 - e.op b q) n
def vB (T : Th) (n : Nat) (e : Es) : Int := sumK (fun p => if (rulesL T kT p).isEmpty then 0 else 0 - e.ob p) n
def vC (T : Th) (e : Es) : Int := sumK (fun s => sumL (fun p => b2i (e.cb s p) - e.cd s p) (rivalsL T (headOf T s))) T.rules.length
/-- What all entries come to: each change adds one. -/
def vV (T : Th) (n : Nat) (e : Es) : Int := vM T e false + vM T e true + vO n e false + vO n e true + vB T n e + vC T e + 2 * (e.td.length : Int) + (e.tk : Int)
def rg (u : Int) : Prop := -9223372036854775808 ≤ u ∧ u < 9223372036854775808
/-- As many updates as changes, but for what is past counting. -/
structure CB (T : Th) (n : Nat) (e e' : Es) : Prop where
  c : ∃ k : Int, e'.up - vV T n e' = e.up - vV T n e + k * 18446744073709551616
  r : rg e.up → rg e'.up
theorem CB.refl : CB T n e e := ⟨⟨0, by omega⟩, fun h => h⟩
theorem CB.trans (h : CB T n e e') (h2 : CB T n e' e2) : CB T n e e2 := by
  obtain ⟨k1, h1⟩ := h.c
  obtain ⟨k2, h3⟩ := h2.c
  exact ⟨⟨k1 + k2, by omega⟩, fun hr => h2.r (h.r hr)⟩
theorem inc_cg (u : Int) : (∃ k : Int, inc u = u + 1 + k * 18446744073709551616) ∧ rg (inc u) := by
  unfold inc rg
  rw [IntKind.wrap_i64]
  exact ⟨⟨-((u + 1 + 9223372036854775808) / 18446744073709551616), by omega⟩, by omega⟩
theorem dec_cg (u : Int) : ∃ k : Int, dec u = u - 1 + k * 18446744073709551616 := by
  unfold dec
  rw [IntKind.wrap_i64]
  exact ⟨-((u - 1 + 9223372036854775808) / 18446744073709551616), by omega⟩
theorem CB.one {d : Int} (hu : e'.up = inc e.up) (hv : vV T n e' = vV T n e + d) (hd : ∃ k : Int, d = 1 + k * 18446744073709551616) : CB T n e e' := by
  obtain ⟨⟨k1, h1⟩, h2⟩ := inc_cg e.up
  obtain ⟨k2, h3⟩ := hd
  rw [← hu] at h1 h2
  exact ⟨⟨k1 - k2, by omega⟩, fun _ => h2⟩
theorem CB.tell {q t : Int} : CB T n e (tell e q t) := by
  unfold Fa.tell
  split
  · exact CB.refl
  · obtain ⟨⟨k1, h1⟩, h2⟩ := inc_cg e.up
    obtain ⟨⟨k3, h3⟩, h4⟩ := inc_cg (inc e.up)
    refine ⟨⟨k1 + k3, ?_⟩, fun _ => h4⟩
    have : vV T n { e with mq := upd e.mq q (orB (e.mq q) t), td := e.td ++ [(q, t)], up := inc (inc e.up) } = vV T n e + 2 := by
      show vM T e false + vM T e true + vO n e false + vO n e true + vB T n e + vC T e + 2 * ((e.td ++ [(q, t)]).length : Int) + (e.tk : Int) = vM T e false + vM T e true + vO n e false + vO n e true + vB T n e + vC T e + 2 * (e.td.length : Int) + (e.tk : Int) + 2
      simp
      omega
    rw [this]
    show inc (inc e.up) - _ = _
    omega
theorem CB.take : CB T n e (takeE e) := CB.one (d := 1) rfl (by
  show vM T e false + vM T e true + vO n e false + vO n e true + vB T n e + vC T e + 2 * (e.td.length : Int) + ((e.tk + 1 : Nat) : Int) = vM T e false + vM T e true + vO n e false + vO n e true + vB T n e + vC T e + 2 * (e.td.length : Int) + (e.tk : Int) + 1
  omega) ⟨0, by omega⟩
theorem CB.met {b : Bool} {r : Nat} (hr : r < T.rules.length) (hk : kindB T (kW b) r = true) : CB T n e (metE e b r) := by
  obtain ⟨k1, h1⟩ := dec_cg (e.ms b r)
  have e1 : vM T (metE e b r) b = vM T e b + (e.ms b r - dec (e.ms b r)) := by
    unfold vM
    rw [sumK_one (f := fun r => if kindB T (kW b) r then b2i (e.rf b r) - e.ms b r else 0) hr fun j hj hne => ?_]
    · simp only [hk, if_true]
      have : (metE e b r).ms b r = dec (e.ms b r) := by show updB e.ms b (upd (e.ms b) r (dec (e.ms b r))) b r = _; rw [updB_at, upd_at]
      rw [this, show (metE e b r).rf = e.rf from rfl]
      omega
    · have : (metE e b r).ms b j = e.ms b j := by show updB e.ms b (upd (e.ms b) r (dec (e.ms b r))) b j = _; rw [updB_at, upd_off (by omega)]
      show (if kindB T (kW b) j then b2i (e.rf b j) - (metE e b r).ms b j else 0) = _
      rw [this]
  have e2 : ∀ c, c ≠ b → vM T (metE e b r) c = vM T e c := fun c hc => by
    unfold vM
    have : (metE e b r).ms c = e.ms c := by show updB e.ms b (upd (e.ms b) r (dec (e.ms b r))) c = _; rw [updB_off hc]
    rw [this]
    rfl
  refine CB.one (d := e.ms b r - dec (e.ms b r)) rfl ?_ ⟨-k1, by omega⟩
  show vM T (metE e b r) false + vM T (metE e b r) true + vO n e false + vO n e true + vB T n e + vC T e + 2 * (e.td.length : Int) + (e.tk : Int) = vM T e false + vM T e true + vO n e false + vO n e true + vB T n e + vC T e + 2 * (e.td.length : Int) + (e.tk : Int) + (e.ms b r - dec (e.ms b r))
  cases b with
  | false => rw [e1, e2 true (by decide)]; omega
  | true => rw [e1, e2 false (by decide)]; omega
theorem CB.ref {b : Bool} {r : Nat} (hr : r < T.rules.length) (hk : kindB T (kW b) r = true) : CB T n e (refE e b r) := by
  unfold refE
  split
  · exact CB.refl
  · rename_i hf
    have hf : e.rf b r = false := by cases h : e.rf b r; rfl; exact absurd h hf
    generalize hE : ({ e with rf := updB e.rf b (upd (e.rf b) r true), up := inc e.up } : Es) = e3
    have hms : e3.ms = e.ms := by rw [← hE]
    have hrf : e3.rf = updB e.rf b (upd (e.rf b) r true) := by rw [← hE]
    have e1 : vM T e3 b = vM T e b + 1 := by
      unfold vM
      rw [sumK_one (f := fun r => if kindB T (kW b) r then b2i (e.rf b r) - e.ms b r else 0) hr fun j hj hne => ?_]
      · simp only [hk, if_true]
        rw [hms, hrf, updB_at, upd_at, hf]
        unfold b2i
        simp only [if_true, Bool.false_eq_true, if_false]
        omega
      · rw [hms, hrf, updB_at, upd_off (by omega)]
    have e2 : ∀ c, c ≠ b → vM T e3 c = vM T e c := fun c hc => by
      unfold vM
      rw [hms, hrf, updB_off hc]
    refine CB.one (d := 1) (by rw [← hE]) ?_ ⟨0, by omega⟩
    have hrest : vV T n e3 = vM T e3 false + vM T e3 true + vO n e false + vO n e true + vB T n e + vC T e + 2 * (e.td.length : Int) + (e.tk : Int) := by rw [← hE]; rfl
    rw [hrest]
    unfold vV
    cases b with
    | false => rw [e1, e2 true (by decide)]; omega
    | true => rw [e1, e2 false (by decide)]; omega
theorem CB.cls {b : Bool} {q : Nat} (hq : q < n) : CB T n e (clsE e b q) := by
  unfold clsE
  split
  · obtain ⟨k1, h1⟩ := dec_cg (e.op b q)
    generalize hE : ({ e with op := updB e.op b (upd (e.op b) q (dec (e.op b q))), up := inc e.up } : Es) = e3
    have hop : e3.op = updB e.op b (upd (e.op b) q (dec (e.op b q))) := by rw [← hE]
    have e1 : vO n e3 b = vO n e b + (e.op b q - dec (e.op b q)) := by
      unfold vO
      rw [sumK_one (f := fun q => 0 - e.op b q) hq fun j hj hne => ?_]
      · rw [hop, updB_at, upd_at]; omega
      · rw [hop, updB_at, upd_off (by omega)]
    have e2 : ∀ c, c ≠ b → vO n e3 c = vO n e c := fun c hc => by
      unfold vO
      rw [hop, updB_off hc]
    refine CB.one (d := e.op b q - dec (e.op b q)) (by rw [← hE]) ?_ ⟨-k1, by omega⟩
    have hrest : vV T n e3 = vM T e false + vM T e true + vO n e3 false + vO n e3 true + vB T n e + vC T e + 2 * (e.td.length : Int) + (e.tk : Int) := by rw [← hE]; rfl
    rw [hrest]
    unfold vV
    cases b with
    | false => rw [e1, e2 true (by decide)]; omega
    | true => rw [e1, e2 false (by decide)]; omega
  · exact CB.refl
theorem CB.clear {q : Nat} (hq : q < n) (ht : rulesL T kT q ≠ []) : CB T n e (clearE e q) := by
  obtain ⟨k1, h1⟩ := dec_cg (e.ob q)
  have hne : (rulesL T kT (q : Int)).isEmpty = false := by cases h : rulesL T kT (q : Int); exact absurd h ht; rfl
  have e1 : vB T n (clearE e q) = vB T n e + (e.ob q - dec (e.ob q)) := by
    unfold vB
    rw [sumK_one (f := fun p => if (rulesL T kT p).isEmpty then 0 else 0 - e.ob p) hq fun j hj hne2 => ?_]
    · simp only [hne, Bool.false_eq_true, if_false]
      have : (clearE e q).ob q = dec (e.ob q) := upd_at
      rw [this]
      omega
    · have : (clearE e q).ob j = e.ob j := upd_off (by omega)
      show (if (rulesL T kT j).isEmpty then 0 else 0 - (clearE e q).ob j) = _
      rw [this]
  refine CB.one (d := e.ob q - dec (e.ob q)) rfl ?_ ⟨-k1, by omega⟩
  show vM T e false + vM T e true + vO n e false + vO n e true + vB T n (clearE e q) + vC T e + 2 * (e.td.length : Int) + (e.tk : Int) = vM T e false + vM T e true + vO n e false + vO n e true + vB T n e + vC T e + 2 * (e.td.length : Int) + (e.tk : Int) + (e.ob q - dec (e.ob q))
  rw [e1]
  omega
theorem vC_one {e3 : Es} {s : Nat} {p d : Int} (hs : s < T.rules.length) (hnd : (rivalsL T (headOf T s)).Nodup) (hp : p ∈ rivalsL T (headOf T s)) (ho : ∀ u z, ¬ (u = (s : Int) ∧ z = p) → e3.cb u z = e.cb u z ∧ e3.cd u z = e.cd u z) (hd : b2i (e3.cb s p) - e3.cd s p = b2i (e.cb s p) - e.cd s p + d) : vC T e3 = vC T e + d := by
  unfold vC
  rw [sumK_one (f := fun s => sumL (fun p => b2i (e.cb s p) - e.cd s p) (rivalsL T (headOf T s))) hs fun j hj hne => ?_]
  · rw [sumL_one (f := fun p => b2i (e.cb s p) - e.cd s p) hnd hp fun y hy hne => ?_]
    · omega
    · obtain ⟨h1, h2⟩ := ho s y fun e1 => hne e1.2
      rw [h1, h2]
  · refine sumL_congr fun y hy => ?_
    obtain ⟨h1, h2⟩ := ho j y fun e1 => hne (by omega)
    rw [h1, h2]
theorem upd2_off {α : Type} {f : Int → Int → α} {s p u z : Int} {v : α} (h : ¬ (u = s ∧ z = p)) : upd f s (upd (f s) p v) u z = f u z := by
  by_cases e1 : u = s
  · subst e1; rw [upd_at, upd_off fun e2 => h ⟨rfl, e2⟩]
  · rw [upd_off e1]
theorem CB.beat1 (hp : Pf T F n) {h s : Nat} (hh : h < n) (hs : s < T.rules.length) (hr : (h : Int) ∈ rivalsL T (headOf T s)) : CB T n e (beat1 h e s) := by
  unfold Fa.beat1
  split
  · exact CB.refl
  · rename_i hc
    have hc : e.cb s h = false := by cases h2 : e.cb s h; rfl; exact absurd h2 hc
    dsimp only
    generalize hE : ({ e with cb := upd e.cb s (upd (e.cb s) h true), up := inc e.up } : Es) = e3
    have h1 : CB T n e e3 := by
      refine CB.one (d := 1) (by rw [← hE]) ?_ ⟨0, by omega⟩
      have e1 : vC T e3 = vC T e + 1 := by
        refine vC_one hs (rivals_nd hp hs) hr (fun u z hne => ?_) ?_
        · rw [← hE]; exact ⟨upd2_off hne, rfl⟩
        · rw [← hE]
          show b2i (upd e.cb s (upd (e.cb s) h true) s h) - e.cd s h = _
          rw [upd_at, upd_at, hc]
          simp [b2i]
          omega
      have hrest : vV T n e3 = vM T e false + vM T e true + vO n e false + vO n e true + vB T n e + vC T e3 + 2 * (e.td.length : Int) + (e.tk : Int) := by rw [← hE]; rfl
      rw [hrest, e1]
      unfold vV
      omega
    split
    · exact h1
    · exact h1.trans (CB.clear hh (mem_rival.1 hr).2)
theorem CB.fold {α : Type} {f : Es → α → Es} : ∀ {l : List α} {e : Es}, (∀ x ∈ l, ∀ e, CB T n e (f e x)) → CB T n e (l.foldl f e)
  | [], _, _ => CB.refl
  | x :: l, _, hf => (hf x List.mem_cons_self _).trans (CB.fold (l := l) fun y hy => hf y (List.mem_cons_of_mem _ hy))
theorem CB.defend (hp : Pf T F n) {r : Nat} (hr : r < T.rules.length) (ht : teamB T r = true) : CB T n e (defendE T e r) := by
  obtain ⟨q, hq, hqn⟩ := head_nat hp hr
  unfold defendE
  rw [hq]
  refine CB.fold fun s hs e => ?_
  obtain ⟨a, rfl, ha, hf⟩ := beats_in hp hr hs
  exact CB.beat1 hp hqn ha (by rw [← hq]; exact beaten_rival hp hr ht hf)
theorem CB.lose {q : Int} : CB T n e (loseE e q) := by
  unfold loseE
  split
  · exact CB.tell
  · exact CB.refl
theorem CB.prove {q : Int} : CB T n e (proveE T e q) := by
  unfold proveE
  split
  · exact CB.tell
  · exact CB.refl
theorem CB.disprove {q : Int} : CB T n e (disproveE T e q) := by
  unfold disproveE
  split
  · exact CB.lose
  · exact CB.refl
theorem CB.with1 (hp : Pf T F n) {h s : Nat} (hs : s < T.rules.length) (hr : (h : Int) ∈ rivalsL T (headOf T s)) : CB T n e (with1 h e s) := by
  obtain ⟨k1, h1⟩ := dec_cg (e.cd s h)
  have h1 : CB T n e { e with cd := upd e.cd s (upd (e.cd s) h (dec (e.cd s h))), up := inc e.up } := by
    generalize hE : ({ e with cd := upd e.cd s (upd (e.cd s) h (dec (e.cd s h))), up := inc e.up } : Es) = e3
    refine CB.one (d := e.cd s h - dec (e.cd s h)) (by rw [← hE]) ?_ ⟨-k1, by omega⟩
    have e1 : vC T e3 = vC T e + (e.cd s h - dec (e.cd s h)) := by
      refine vC_one hs (rivals_nd hp hs) hr (fun u z hne => ?_) ?_
      · rw [← hE]; exact ⟨rfl, upd2_off hne⟩
      · rw [← hE]
        show b2i (e.cb s h) - upd e.cd s (upd (e.cd s) h (dec (e.cd s h))) s h = _
        rw [upd_at, upd_at]
        omega
    have hrest : vV T n e3 = vM T e false + vM T e true + vO n e false + vO n e true + vB T n e + vC T e3 + 2 * (e.td.length : Int) + (e.tk : Int) := by rw [← hE]; rfl
    rw [hrest, e1]
    unfold vV
    omega
  unfold Fa.with1
  dsimp only
  split
  · exact h1.trans CB.lose
  · exact h1
theorem CB.use (hp : Pf T F n) {r : Nat} (hr : r < T.rules.length) : CB T n e (useE T e r) := by
  have h1 : CB T n e ((rivalsL T (headOf T r)).foldl (use1 r) e) := CB.fold fun p _ e => by
    unfold use1
    split
    · exact CB.lose
    · exact CB.refl
  unfold useE
  dsimp only
  split
  · rename_i ht
    split
    · exact (h1.trans (CB.defend hp hr ht)).trans CB.tell
    · exact h1.trans (CB.defend hp hr ht)
  · exact h1
theorem CB.drop (hp : Pf T F n) {r : Nat} (hr : r < T.rules.length) : CB T n e (dropE T e r) := by
  obtain ⟨q, hq, hqn⟩ := head_nat hp hr
  have h1 : CB T n e ((rivalsL T (headOf T r)).foldl (drop1 T r) e) := CB.fold fun p hpr e => by
    unfold drop1
    split
    · exact CB.refl
    · obtain ⟨p0, p1⟩ := rival_in hp hqn (by rw [← hq]; exact hpr)
      obtain ⟨a, rfl⟩ := Int.eq_ofNat_of_zero_le p0
      exact (CB.clear (by omega) (mem_rival.1 hpr).2).trans CB.prove
  unfold dropE
  dsimp only
  split
  · rename_i ht
    have h2 : CB T n ((rivalsL T (headOf T r)).foldl (drop1 T r) e) (withE T ((rivalsL T (headOf T r)).foldl (drop1 T r) e) r) := by
      unfold withE
      rw [hq]
      refine CB.fold fun s hs e => ?_
      obtain ⟨a, rfl, ha, hf⟩ := beats_in hp hr hs
      exact CB.with1 hp ha (by rw [← hq]; exact beaten_rival hp hr ht hf)
    rw [hq] at h1 h2 ⊢
    split
    · exact ((h1.trans h2).trans (CB.cls hqn)).trans CB.lose
    · exact (h1.trans h2).trans (CB.cls hqn)
  · exact h1
theorem CB.does (hp : Pf T F n) {q : Nat} {t : Int} (hqn : q < n) : CB T n e (doesE T F e q t) := by
  unfold doesE
  split
  · unfold plusSE
    refine (CB.tell.trans (CB.fold fun r hr e => ?_)).trans (CB.fold fun p _ e => CB.lose)
    obtain ⟨a, rfl, ha, hk, -⟩ := user_in hr
    unfold Fa.plusS1
    dsimp only
    split
    · exact (CB.met ha hk).trans CB.tell
    · exact CB.met ha hk
  · split
    · unfold minusSE
      dsimp only
      have h1 : CB T n e ((usersL T false q).foldl (Fa.minusS1 T) e) := CB.fold fun r hr e => by
        obtain ⟨a, rfl, ha, hk, -⟩ := user_in hr
        obtain ⟨hd, ehd, hdn⟩ := head_nat hp ha
        unfold Fa.minusS1
        dsimp only
        rw [ehd]
        split
        · exact CB.refl
        · split
          · exact ((CB.ref ha hk).trans (CB.cls hdn)).trans CB.tell
          · exact (CB.ref ha hk).trans (CB.cls hdn)
      refine CB.trans ?_ CB.disprove
      split
      · refine h1.trans (CB.fold fun p hpr e => ?_)
        obtain ⟨p0, p1⟩ := rival_in hp hqn hpr
        obtain ⟨a, rfl⟩ := Int.eq_ofNat_of_zero_le p0
        exact (CB.clear (by omega) (mem_rival.1 hpr).2).trans CB.prove
      · exact h1
    · split
      · unfold plusDE
        refine CB.fold fun r hr e => ?_
        obtain ⟨a, rfl, ha, hk, -⟩ := user_in hr
        unfold plusD1
        dsimp only
        split
        · exact (CB.met ha hk).trans (CB.use hp ha)
        · exact CB.met ha hk
      · unfold minusDE
        refine CB.fold fun r hr e => ?_
        obtain ⟨a, rfl, ha, hk, -⟩ := user_in hr
        unfold minusD1
        split
        · exact CB.refl
        · exact (CB.ref ha hk).trans (CB.drop hp ha)
theorem CB.step (hp : Pf T F n) (htok : Tok n e) (hlt : e.tk < e.td.length) : CB T n e (stepE T F e) := by
  obtain ⟨x, hx⟩ := get_at hlt
  obtain ⟨x0, x1, -, -⟩ := htok.inn x (List.mem_of_getElem? hx)
  obtain ⟨q, hq⟩ := Int.eq_ofNat_of_zero_le x0
  unfold stepE
  rw [List.getD_eq_getElem?_getD, hx]
  show CB T n e (doesE T F (takeE e) x.1 x.2)
  rw [hq]
  exact CB.take.trans (CB.does hp (by omega))
end
end Go.Proofs.Ythifoamnmhlghaa.Fa
/- Sums by heads; what all pairs come to. PLAIN. -/
namespace Go.Proofs.Ythifoamnmhlghaa.Fa

section
variable {T : Th} {F : List Int} {n k : Nat} {m : List Int}
theorem sumK_le {f g : Nat → Int} : ∀ {k : Nat}, (∀ i, i < k → f i ≤ g i) → sumK f k ≤ sumK g k
  | 0, _ => Int.le_refl _
  | k + 1, h => by
    have h1 := sumK_le (k := k) fun i hi => h i (by omega)
    have h2 := h k (by omega)
    show sumK f k + f k ≤ sumK g k + g k
    omega
theorem sumL_le {f g : Int → Int} : ∀ {l : List Int}, (∀ x ∈ l, f x ≤ g x) → sumL f l ≤ sumL g l
  | [], _ => Int.le_refl _
  | x :: l, h => by
    have h1 := sumL_le fun y hy => h y (List.mem_cons_of_mem x hy)
    have h2 := h x List.mem_cons_self
    show f x + sumL f l ≤ g x + sumL g l
    omega
theorem sumK_mul {f : Nat → Int} {c : Int} : ∀ {k : Nat}, sumK (fun i => c * f i) k = c * sumK f k
  | 0 => by show (0 : Int) = c * 0; omega
  | k + 1 => by
    show sumK (fun i => c * f i) k + c * f k = c * (sumK f k + f k)
    rw [sumK_mul, Int.mul_add]
theorem sumL_mul {f : Int → Int} {c : Int} : ∀ {l : List Int}, sumL (fun x => c * f x) l = c * sumL f l
  | [] => by show (0 : Int) = c * 0; omega
  | x :: l => by
    show c * f x + sumL (fun x => c * f x) l = c * (f x + sumL f l)
    rw [sumL_mul, Int.mul_add]
theorem sumL_add {f g : Int → Int} : ∀ {l : List Int}, sumL (fun x => f x + g x) l = sumL f l + sumL g l
  | [] => rfl
  | x :: l => by
    show f x + g x + sumL (fun x => f x + g x) l = f x + sumL f l + (g x + sumL g l)
    rw [sumL_add]
    omega
theorem sumL_app {f : Int → Int} : ∀ {l l2 : List Int}, sumL f (l ++ l2) = sumL f l + sumL f l2
  | [], l2 => by show sumL f l2 = 0 + sumL f l2; omega
  | x :: l, l2 => by
    show f x + sumL f (l ++ l2) = f x + sumL f l + sumL f l2
    rw [sumL_app]
    omega
theorem sumL_nonneg {f : Int → Int} : ∀ {l : List Int}, (∀ x ∈ l, 0 ≤ f x) → 0 ≤ sumL f l
  | [], _ => Int.le_refl _
  | x :: l, h => by
    have h1 := sumL_nonneg fun y hy => h y (List.mem_cons_of_mem x hy)
    have h2 := h x List.mem_cons_self
    show 0 ≤ f x + sumL f l
    omega
theorem sumK_nonneg {f : Nat → Int} : ∀ {k : Nat}, (∀ i, i < k → 0 ≤ f i) → 0 ≤ sumK f k
  | 0, _ => Int.le_refl _
  | k + 1, h => by
    have h1 := sumK_nonneg (k := k) fun i hi => h i (by omega)
    have h2 := h k (by omega)
    show 0 ≤ sumK f k + f k
    omega
theorem sumL_const {c : Int} : ∀ {l : List Int}, sumL (fun _ => c) l = (l.length : Int) * c
  | [] => by show (0 : Int) = ((0 : Nat) : Int) * c; simp
  | x :: l => by
    show c + sumL (fun _ => c) l = ((l.length + 1 : Nat) : Int) * c
    rw [sumL_const]
    push_cast
    rw [Int.add_mul]
    omega
theorem sumL_mem {f : Int → Int} {x : Int} : ∀ {l : List Int}, x ∈ l → (∀ y ∈ l, 0 ≤ f y) → f x ≤ sumL f l
  | y :: l, hx, h => by
    have h1 := h y List.mem_cons_self
    have h2 := sumL_nonneg fun z hz => h z (List.mem_cons_of_mem y hz)
    show f x ≤ f y + sumL f l
    rcases List.mem_cons.1 hx with rfl | hx
    · omega
    · have := sumL_mem hx fun z hz => h z (List.mem_cons_of_mem y hz)
      omega
/-- Rules by their heads. -/
theorem group_sum {f : Int → Int} (hh : ∀ a : Nat, a < T.rules.length → ∃ q : Nat, q < n ∧ headOf T a = (q : Int)) : ∀ R : Nat, R ≤ T.rules.length → sumK (fun s => f s) R = sumK (fun q => sumL f (forL T kA R q)) n
  | 0, _ => by
    rw [show (fun q : Nat => sumL f (forL T kA 0 q)) = fun _ => 0 from by funext q; rfl, sumK_zero]
    rfl
  | R + 1, hR => by
    obtain ⟨a, ha, hq⟩ := hh R (by omega)
    obtain ⟨r, hr⟩ := get_at (l := T.rules) (i := R) (by omega)
    have hk : kindB T kA R = true := (kind_at (p := kA) hr).1
    have ih := group_sum (f := f) hh R (by omega)
    have h1 := sumK_one (f := fun q : Nat => sumL f (forL T kA R q)) (g := fun q : Nat => sumL f (forL T kA (R + 1) q)) ha fun j hj hne => by
      have : forL T kA (R + 1) (j : Int) = forL T kA R j := by
        have hne2 : ¬ (a : Int) = (j : Int) := by omega
        rw [forL_succ, isFor_kind, hq]
        simp [hne2]
      show sumL f (forL T kA (R + 1) j) = _
      rw [this]
    have h2 : sumL f (forL T kA (R + 1) (a : Int)) = sumL f (forL T kA R a) + f R := by
      have : forL T kA (R + 1) (a : Int) = forL T kA R a ++ [(R : Int)] := by rw [forL_succ, isFor_kind, hk, hq]; simp
      rw [this, sumL_app]
      show _ + (f R + 0) = _
      omega
    show sumK (fun s => f s) R + f R = _
    rw [h1, ih]
    show _ = _ + (sumL f (forL T kA (R + 1) a) - sumL f (forL T kA R a))
    omega
theorem heads_in (hp : Pf T F n) : ∀ a : Nat, a < T.rules.length → ∃ q : Nat, q < n ∧ headOf T a = (q : Int) := fun a ha => by
  obtain ⟨q, hq, hqn⟩ := head_nat hp ha
  exact ⟨q, hqn, hq⟩
/-- How many rules there are for a literal. -/
def cR (T : Th) (q : Int) : Int := ((rulesL T kA q).length : Nat)
theorem cR_nonneg {q : Int} : 0 ≤ cR T q := Int.natCast_nonneg _
theorem cR_cnt {q : Int} : cR T q = (cntM T q : Nat) := by
  unfold cR cntM rulesL forL
  rw [List.length_map]
  congr 1
  have key : ∀ (l : List RuleM) (p : Nat → Bool), (∀ i x, l[i]? = some x → p i = decide (x.head = q)) → ((List.range l.length).filter p).length = (l.filter fun r => decide (r.head = q)).length := by
    intro l
    induction l with
    | nil => intro p _; rfl
    | cons x l ih =>
      intro p hp
      have h0 := hp 0 x rfl
      have h1 := ih (fun i => p (i + 1)) fun i y hy => hp (i + 1) y hy
      rw [List.length_cons, List.range_succ_eq_map, List.filter_cons, List.filter_map, List.filter_cons, h0]
      have h2 : (List.filter (p ∘ Nat.succ) (List.range l.length)).length = (l.filter fun r => decide (r.head = q)).length := h1
      split
      · rw [List.length_cons, List.length_cons, List.length_map, h2]
      · rw [List.length_map, h2]
  refine key T.rules _ fun i x hx => ?_
  unfold isFor
  rw [hx]
  rfl
/-- Those against a literal, counted. -/
theorem ag_sum (hp : Pf T F n) {l : List Int} (hn : l.Nodup) : ∀ R : Nat, R ≤ T.rules.length → (((List.range R).filter fun a : Nat => decide (headOf T (a : Int) ∈ l)).length : Int) = sumL (fun f => ((forL T kA R f).length : Nat)) l
  | 0, _ => by
    have : sumL (fun f => ((forL T kA 0 f).length : Nat)) l = sumL (fun _ => 0) l := sumL_congr fun y _ => rfl
    rw [this, sumL_const]
    simp
  | R + 1, hR => by
    obtain ⟨r, hr⟩ := get_at (l := T.rules) (i := R) (by omega)
    have hk : kindB T kA R = true := (kind_at (p := kA) hr).1
    have ih := ag_sum hp hn R (by omega)
    rw [List.range_succ, List.filter_append, List.length_append]
    have at_ : ∀ f : Int, ((forL T kA (R + 1) f).length : Int) = (forL T kA R f).length + (if headOf T R = f then 1 else 0) := fun f => by
      rw [forL_succ, isFor_kind, hk]
      by_cases e : headOf T R = f
      · simp [e]
      · simp [e]
    by_cases hm : headOf T R ∈ l
    · have h1 := sumL_one (f := fun f => ((forL T kA R f).length : Nat)) (g := fun f => ((forL T kA (R + 1) f).length : Nat)) hn hm fun y hy hne => by
        rw [at_ y, if_neg fun e : headOf T R = y => hne e.symm]
        omega
      rw [h1]
      have h2 := at_ (headOf T R)
      rw [if_pos rfl] at h2
      have h3 : (List.filter (fun a : Nat => decide (headOf T (a : Int) ∈ l)) [R]).length = 1 := by simp [hm]
      omega
    · have h1 : sumL (fun f => ((forL T kA (R + 1) f).length : Nat)) l = sumL (fun f => ((forL T kA R f).length : Nat)) l := sumL_congr fun y hy => by
        rw [at_ y, if_neg fun e : headOf T R = y => hm (e ▸ hy)]
        omega
      rw [h1]
      have h3 : (List.filter (fun a : Nat => decide (headOf T (a : Int) ∈ l)) [R]).length = 0 := by simp [hm]
      omega
theorem ag_len_sum (hp : Pf T F n) {p : Nat} (hpn : p < n) : ((agL T p).length : Int) = sumL (cR T) (row T.foes p) := by
  unfold agL
  rw [List.length_map, ag_sum hp (pw_nodup (foe_pw hp hpn).1) _ (Nat.le_refl _)]
  rfl
theorem pairsRow_sum {i : Nat} : ∀ {l : List Int}, (pairsRow T i l : Int) = cR T i * sumL (cR T) l
  | [] => by show ((0 : Nat) : Int) = cR T i * 0; simp
  | f :: l => by
    show ((cntM T i * cntM T f + pairsRow T i l : Nat) : Int) = cR T i * (cR T f + sumL (cR T) l)
    rw [Int.mul_add, ← pairsRow_sum, cR_cnt, cR_cnt]
    push_cast
    rfl
theorem pairsFrom_sum : ∀ {l : List (List Int)} {i : Nat}, (pairsFrom T i l : Int) = sumK (fun j => cR T ((i + j : Nat) : Int) * sumL (cR T) (l.getD j [])) l.length
  | [], i => rfl
  | x :: l, i => by
    show ((pairsRow T i x + pairsFrom T (i + 1) l : Nat) : Int) = _
    push_cast
    rw [pairsRow_sum, pairsFrom_sum (l := l) (i := i + 1)]
    have shift : ∀ (g : Nat → Int) (k : Nat), sumK g (k + 1) = g 0 + sumK (fun j => g (j + 1)) k := by
      intro g k
      induction k with
      | zero => show 0 + g 0 = g 0 + 0; omega
      | succ k ih =>
        show sumK g (k + 1) + g (k + 1) = g 0 + (sumK (fun j => g (j + 1)) k + g (k + 1))
        rw [ih]
        omega
    rw [List.length_cons, shift]
    congr 1
    refine sumK_congr fun j _ => ?_
    rw [show i + 1 + j = i + (j + 1) from by omega]
    rfl
theorem pairs_sum (hp : Pf T F n) : (pairsM T : Int) = sumK (fun p => cR T p * sumL (cR T) (row T.foes p)) n := by
  have hfl := hp.ok.fl
  have hln := hp.ln
  have hl : T.foes.length = n := by omega
  unfold pairsM
  rw [pairsFrom_sum, hl]
  refine sumK_congr fun p hpn => ?_
  rw [Nat.zero_add]
  have : T.foes.getD p [] = row T.foes (p : Int) := by
    obtain ⟨l, hl2⟩ := get_at (l := T.foes) (i := p) (by omega)
    rw [row_at (l := l) (by rw [Int.toNat_natCast]; exact hl2), List.getD_eq_getElem?_getD, hl2]
    rfl
  rw [this]
theorem pairs_rules (hp : Pf T F n) : (pairsM T : Int) = sumK (fun s => sumL (cR T) (row T.foes (headOf T s))) T.rules.length := by
  rw [pairs_sum hp, group_sum (f := fun s => sumL (cR T) (row T.foes (headOf T s))) (heads_in hp) _ (Nat.le_refl _)]
  refine sumK_congr fun q _ => ?_
  have : sumL (fun s => sumL (cR T) (row T.foes (headOf T s))) (rulesL T kA q) = sumL (fun _ => sumL (cR T) (row T.foes q)) (rulesL T kA q) := sumL_congr fun s hs => by
    obtain ⟨a, rfl, -, hh, -⟩ := rule_lt (p := kA) hs
    rw [hh]
  show _ = sumL (fun s => sumL (cR T) (row T.foes (headOf T s))) (rulesL T kA q)
  rw [this, sumL_const]
  rfl
theorem team_le {p : Int} : ((rulesL T kT p).length : Int) ≤ cR T p := by
  unfold cR
  have : (rulesL T kT p).length ≤ (rulesL T kA p).length := nodup_le rules_nd fun x hx => by
    obtain ⟨a, r, e, hr, -, hh⟩ := mem_rules.1 hx
    exact mem_rules.2 ⟨a, r, e, hr, rfl, hh⟩
  omega
end
end Go.Proofs.Ythifoamnmhlghaa.Fa
/- A literal and its rules: no more than four for it and for each premise. PLAIN. -/
namespace Go.Proofs.Ythifoamnmhlghaa.Fa

section
variable {T : Th} {F : List Int} {n k : Nat} {m : List Int}
theorem lf_cnt {l : List Int} {P : Int → Bool} : lf l P + cnt l P = (l.length : Int) := by
  unfold lf cnt
  induction l with
  | nil => rfl
  | cons x l ih =>
    cases h : P x
    · rw [List.filter_cons_of_pos (by simp [h]), List.filter_cons_of_neg (by simp [h])]
      simp only [List.length_cons]
      omega
    · rw [List.filter_cons_of_neg (by simp [h]), List.filter_cons_of_pos (by simp [h])]
      simp only [List.length_cons]
      omega
theorem cnt_nonneg {l : List Int} {P : Int → Bool} : 0 ≤ cnt l P := Int.natCast_nonneg _
def bL (T : Th) (r : Int) : Int := ((bodyM T r).length : Nat)
/-- What a rule takes: of its premises those that are met, and whether it is refuted. -/
def cd2 (T : Th) (m : List Int) (b : Bool) (r : Int) : Int := if kindB T (kW b) r then b2i (partB T m r (tn b)) + cnt (bodyM T r) (fun x => hs m x (tp b)) else 0
def cl2 (T : Th) (m : List Int) (b : Bool) (r : Int) : Int := b2i (kindB T (kL b) r && partB T m r (tn b))
def eB (T : Th) (F m : List Int) (b : Bool) (q : Int) : Int := if openZ T F b q || (rulesL T (kL b) q).isEmpty then 0 else ((rulesL T (kL b) q).length : Int) - max 1 (lf (rulesL T (kL b) q) fun r => partB T m r (tn b))
def early (T : Th) (F : List Int) (q : Int) : Bool := !firmB T F q || openZ T F false q
theorem b2i_le (b : Bool) : 0 ≤ b2i b ∧ b2i b ≤ 1 := by cases b <;> simp [b2i]
theorem cd2_le (hp : Pf T F n) (hs_ : Sol T F m k) {b : Bool} {r : Nat} (hr : r < T.rules.length) : cd2 T m b r ≤ bL T r := by
  unfold cd2 bL
  have h0 := lf_nonneg (l := bodyM T r) (P := fun x => hs m x (tp b))
  have h1 := lf_cnt (l := bodyM T r) (P := fun x => hs m x (tp b))
  split
  · cases hpt : partB T m r (tn b) with
    | false => simp only [b2i, Bool.false_eq_true, if_false]; omega
    | true =>
      obtain ⟨x, hx, hx2⟩ := prt_iff.1 hpt
      obtain ⟨x0, x1⟩ := body_in hp hr hx
      have hn : hs m x (tp b) = false := by
        cases hh : hs m x (tp b) with
        | false => rfl
        | true =>
          exfalso
          cases b with
          | false => exact sol_strict hp hs_ x0 hh hx2
          | true => exact sol_defeas hp hs_ x0 hh hx2
      have := lf_pos (P := fun x => hs m x (tp b)) hx hn
      simp only [b2i, if_true]
      omega
  · omega
theorem cd2_nonneg {b : Bool} {r : Int} : 0 ≤ cd2 T m b r := by
  unfold cd2
  have := (b2i_le (partB T m r (tn b))).1
  have := cnt_nonneg (l := bodyM T r) (P := fun x => hs m x (tp b))
  split <;> omega
theorem part_body {r t : Int} (h : partB T m r t = true) : 1 ≤ bL T r := by
  obtain ⟨x, hx, -⟩ := prt_iff.1 h
  have := List.length_pos_of_mem hx
  unfold bL
  omega
theorem cl2_body {b : Bool} {r : Int} : cl2 T m b r ≤ bL T r := by
  unfold cl2
  have h0 : 0 ≤ bL T r := Int.natCast_nonneg _
  cases h : (kindB T (kL b) r && partB T m r (tn b)) with
  | false => simp only [b2i, Bool.false_eq_true, if_false]; omega
  | true =>
    rw [Bool.and_eq_true] at h
    have := part_body h.2
    simp only [b2i, if_true]; omega
/-- What a rule leaves over. -/
def sl2 (T : Th) (m : List Int) (r : Int) : Int := 4 * bL T r - cd2 T m false r - cd2 T m true r - cl2 T m false r - cl2 T m true r
theorem sl2_nonneg (hp : Pf T F n) (hs_ : Sol T F m k) {r : Nat} (hr : r < T.rules.length) : 0 ≤ sl2 T m r := by
  unfold sl2
  have h1 := cd2_le hp hs_ (b := false) hr
  have h2 := cd2_le hp hs_ (b := true) hr
  have h3 := cl2_body (T := T) (m := m) (b := false) (r := r)
  have h4 := cl2_body (T := T) (m := m) (b := true) (r := r)
  omega
theorem rules_filter {p : RuleM → Bool} {q : Int} : rulesL T p q = (rulesL T kA q).filter fun r => kindB T p r := by
  unfold rulesL forL
  rw [List.filter_map, List.filter_filter]
  congr 1
  refine List.filter_congr fun a ha => ?_
  obtain ⟨r, hr⟩ := get_at (List.mem_range.1 ha)
  have hk : kindB T kA a = true := (kind_at (p := kA) hr).1
  rw [isFor_kind, isFor_kind, hk]
  show _ = (kindB T p (a : Int) && _)
  simp
theorem sum_filter {P Q : Int → Bool} : ∀ {l : List Int}, sumL (fun r => b2i (P r && Q r)) l = (((l.filter P).filter Q).length : Nat)
  | [] => rfl
  | x :: l => by
    show b2i (P x && Q x) + sumL (fun r => b2i (P r && Q r)) l = _
    rw [sum_filter]
    cases hP : P x with
    | false => rw [List.filter_cons_of_neg (by simp [hP])]; simp [b2i]
    | true =>
      rw [List.filter_cons_of_pos hP]
      cases hQ : Q x with
      | false => rw [List.filter_cons_of_neg (by simp [hQ])]; simp [b2i]
      | true => rw [List.filter_cons_of_pos hQ]; simp [b2i]; omega
theorem cl2_sum {b : Bool} {q : Int} : sumL (cl2 T m b) (rulesL T kA q) = cnt (rulesL T (kL b) q) fun r => partB T m r (tn b) := by
  show sumL (fun r => b2i (kindB T (kL b) r && partB T m r (tn b))) (rulesL T kA q) = _
  rw [sum_filter, ← rules_filter]
  rfl
theorem eB_le {b : Bool} {q : Int} : 0 ≤ eB T F m b q ∧ eB T F m b q ≤ cnt (rulesL T (kL b) q) fun r => partB T m r (tn b) := by
  have h1 := lf_cnt (l := rulesL T (kL b) q) (P := fun r => partB T m r (tn b))
  have h2 := cnt_nonneg (l := rulesL T (kL b) q) (P := fun r => partB T m r (tn b))
  have h3 := lf_nonneg (l := rulesL T (kL b) q) (P := fun r => partB T m r (tn b))
  unfold eB
  split
  · omega
  · rename_i ho
    have : (rulesL T (kL b) q).length ≠ 0 := fun e => by
      rw [List.length_eq_zero_iff.1 e] at ho
      simp at ho
    omega
theorem eB_all {b : Bool} {q : Int} (hne : rulesL T (kL b) q ≠ []) (hall : ∀ r ∈ rulesL T (kL b) q, partB T m r (tn b) = true) : eB T F m b q ≤ cnt (rulesL T (kL b) q) (fun r => partB T m r (tn b)) - 1 := by
  have h1 := lf_cnt (l := rulesL T (kL b) q) (P := fun r => partB T m r (tn b))
  have h2 := lf_zero.2 hall
  have h3 := List.length_pos_iff.2 hne
  unfold eB
  split <;> omega
theorem mem_all {p : RuleM → Bool} {q r : Int} (h : r ∈ rulesL T p q) : r ∈ rulesL T kA q := by
  rw [rules_filter] at h
  exact (List.mem_filter.1 h).1
/-- No more than four for a literal and for each premise of its rules. -/
theorem local_le (hp : Pf T F n) (hs_ : Sol T F m k) {q : Nat} (hq : q < n) : 3 * (cntT m q : Int) - 2 * b2i (early T F q) + sumL (fun r => cd2 T m false r + cd2 T m true r) (rulesL T kA q) + eB T F m false q + eB T F m true q ≤ 4 + 4 * sumL (bL T) (rulesL T kA q) := by
  have hin : ∀ r ∈ rulesL T kA (q : Int), ∃ a : Nat, r = (a : Int) ∧ a < T.rules.length := fun r hr => by
    obtain ⟨a, e, ha, -, -⟩ := rule_lt hr
    exact ⟨a, e, ha⟩
  have hsl : ∀ r ∈ rulesL T kA (q : Int), 0 ≤ sl2 T m r := fun r hr => by
    obtain ⟨a, rfl, ha⟩ := hin r hr
    exact sl2_nonneg hp hs_ ha
  have hsum : 4 * sumL (bL T) (rulesL T kA (q : Int)) = sumL (sl2 T m) (rulesL T kA q) + sumL (fun r => cd2 T m false r + cd2 T m true r) (rulesL T kA q) + sumL (cl2 T m false) (rulesL T kA q) + sumL (cl2 T m true) (rulesL T kA q) := by
    rw [← sumL_mul, ← sumL_add, ← sumL_add, ← sumL_add]
    refine sumL_congr fun r _ => ?_
    unfold sl2
    omega
  rw [cl2_sum, cl2_sum] at hsum
  have hS0 := sumL_nonneg hsl
  have f1 := eB_le (T := T) (F := F) (m := m) (b := false) (q := q)
  have f2 := eB_le (T := T) (F := F) (m := m) (b := true) (q := q)
  have hb := b2i_le (early T F q)
  have q0 : (0 : Int) ≤ (q : Int) := by omega
  have q1 : (q : Int) < (n : Int) := by omega
  have c12 := sol_strict hp hs_ q0
  have c34 := sol_defeas hp hs_ q0
  -- how many tags
  have hle2 : cntT m q ≤ 2 := by
    unfold cntT
    cases h1 : hs m q 1 <;> cases h2 : hs m q 2 <;> cases h3 : hs m q 3 <;> cases h4 : hs m q 4 <;> simp_all [b2n]
  by_cases h2 : cntT m q ≤ 1
  · omega
  · cases he : early T F q with
    | true => rw [he] at *; simp only [b2i, if_true]; omega
    | false =>
      have hor : hs m q 1 = true ∨ hs m q 2 = true := by
        unfold cntT at h2
        cases h1 : hs m q 1 with
        | true => exact .inl rfl
        | false =>
          cases h2' : hs m q 2 with
          | true => exact .inr rfl
          | false =>
            exfalso
            rw [h1, h2'] at h2
            cases h3 : hs m q 3 <;> cases h4 : hs m q 4 <;> simp_all [b2n]
      have hneed : 2 ≤ sumL (sl2 T m) (rulesL T kA q) + (cnt (rulesL T (kL false) q) (fun r => partB T m r (tn false)) - eB T F m false q) + (cnt (rulesL T (kL true) q) (fun r => partB T m r (tn true)) - eB T F m true q) := by
        unfold early at he
        rw [Bool.or_eq_false_iff, Bool.not_eq_false'] at he
        obtain ⟨hfm, hopn⟩ := he
        have hopn2 := hopn
        unfold openZ at hopn2
        rw [Bool.or_eq_false_iff] at hopn2
        have hF : (q : Int) ∉ F := fun hm => by have := hopn2.2; simp [hm] at this
        have hne : rulesL T kS (q : Int) ≠ [] := fun e0 => by
          unfold firmB at hfm
          rw [e0] at hfm
          simp [hF] at hfm
        have hbare : ∀ r ∈ rulesL T kS (q : Int), 1 ≤ bL T r := fun r hr => by
          have h5 := hopn2.1
          unfold bareB at h5
          rw [List.any_eq_false] at h5
          have h6 := h5 r hr
          unfold bL
          cases hbd : bodyM T r with
          | nil => rw [hbd] at h6; exact absurd rfl h6
          | cons _ _ => simp only [List.length_cons]; omega
        rcases hor with h1 | h1
        · -- strictly proved by a rule
          rcases plusS_iff.1 ((sol_iff hp hs_ q0 q1 tag1).1 h1) with h5 | ⟨r, hr, hw⟩
          · exact absurd h5 hF
          · obtain ⟨a, rfl, ha, -, -⟩ := rule_lt hr
            have hb1 := hbare a hr
            have no : ∀ b, partB T m a (tn b) = false := fun b => by
              cases hpt : partB T m a (tn b) with
              | false => rfl
              | true =>
                exfalso
                obtain ⟨x, hx, hx2⟩ := prt_iff.1 hpt
                obtain ⟨x0, x1⟩ := body_in hp ha hx
                have hx1 := whl_iff.1 hw x hx
                cases b with
                | false => exact sol_strict hp hs_ x0 hx1 hx2
                | true => exact sol_defeas hp hs_ x0 (sol_up hp hs_ x0 x1 hx1) hx2
            have h7 := cd2_le hp hs_ (b := false) ha
            have h8 := cd2_le hp hs_ (b := true) ha
            have h9 : ∀ b, cl2 T m b a = 0 := fun b => by unfold cl2; rw [no b]; simp [b2i]
            have h10 : 2 ≤ sl2 T m a := by unfold sl2; rw [h9, h9]; omega
            have h11 := sumL_mem (mem_all hr) hsl
            omega
        · -- strictly refuted
          obtain ⟨-, hall⟩ := minusS_iff.1 ((sol_iff hp hs_ q0 q1 tag2).1 h1)
          have g1 := eB_all (F := F) (b := false) hne hall
          obtain ⟨r, hr⟩ := List.exists_mem_of_ne_nil _ hne
          obtain ⟨a, rfl, ha, -, hka⟩ := rule_lt hr
          have hta : (a : Int) ∈ rulesL T kT (q : Int) := by
            obtain ⟨a2, x, e1, hx, hk1, hh⟩ := mem_rules.1 hr
            refine mem_rules.2 ⟨a2, x, e1, hx, ?_, hh⟩
            unfold kS at hk1
            unfold kT
            have := of_decide_eq_true hk1
            simp [this]
          have one : ∀ t : Nat, t < T.rules.length → 1 ≤ bL T t → 1 ≤ sl2 T m t + cl2 T m true t := fun t ht hb1 => by
            have h7 := cd2_le hp hs_ (b := false) ht
            have h8 := cd2_le hp hs_ (b := true) ht
            have h9 : cl2 T m false t ≤ 1 := by unfold cl2; exact (b2i_le _).2
            unfold sl2
            omega
          cases ho : openZ T F true q with
          | true =>
            have hz : eB T F m true q = 0 := by unfold eB; rw [ho]; rfl
            have h11 := sumL_mem (f := fun r => sl2 T m r + cl2 T m true r) (mem_all hr) fun y hy => by
              have := hsl y hy
              have := (b2i_le (kindB T (kL true) y && partB T m y (tn true))).1
              show 0 ≤ sl2 T m y + b2i _
              omega
            rw [sumL_add, cl2_sum] at h11
            have := one a ha (hbare a hr)
            omega
          | false =>
            by_cases hall4 : ∀ r ∈ rulesL T (kL true) (q : Int), partB T m r (tn true) = true
            · have g2 := eB_all (F := F) (b := true) (fun e0 => by rw [show rulesL T (kL true) (q : Int) = rulesL T kT q from rfl] at e0; rw [e0] at hta; cases hta) hall4
              omega
            · obtain ⟨t, ht⟩ := Classical.not_forall.1 hall4
              obtain ⟨htm, hnp⟩ := Classical.not_imp.1 ht
              obtain ⟨c, rfl, hc, -, -⟩ := rule_lt htm
              have hb1 : 1 ≤ bL T c := by
                unfold openZ at ho
                rw [Bool.or_eq_false_iff] at ho
                have h5 := ho.1
                unfold bareB at h5
                rw [List.any_eq_false] at h5
                have h6 := h5 c htm
                unfold bL
                cases hbd : bodyM T c with
                | nil => rw [hbd] at h6; exact absurd rfl h6
                | cons _ _ => simp only [List.length_cons]; omega
              have hcl : cl2 T m true c = 0 := by
                unfold cl2
                have : partB T m c (tn true) = false := by cases h5 : partB T m c (tn true); rfl; exact absurd h5 hnp
                rw [this]
                simp [b2i]
              have h10 := one c hc hb1
              have h11 := sumL_mem (mem_all htm) hsl
              omega
      rw [he] at *
      have hc2 : (cntT m q : Int) = 2 := by omega
      simp only [b2i, Bool.false_eq_true, if_false]
      omega
end
end Go.Proofs.Ythifoamnmhlghaa.Fa
/- How many updates a run takes. PLAIN. -/
namespace Go.Proofs.Ythifoamnmhlghaa.Fa

section
variable {T : Th} {F : List Int} {n k : Nat} {m : List Int} {G G' : Gho} {e e' : Es}
/-- What is laid at the beginning. -/
theorem lay_facts (hp : Pf T F n) (hs_ : Sol T F m k) : ∃ G, Iv T F n m G (layE T F n) ∧ Agh noG G ∧ (∀ b s, (layE T F n).rf b s = false) ∧ (layE T F n).tk = 0 ∧ (layE T F n).up = 0 ∧ ∀ q : Nat, q < n → early T F q = true → ∃ t, isTag t ∧ has (layE T F n) q t = true := by
  obtain ⟨G, i0, g0, a0, r0, b0⟩ := bare_all (m := m) hp T.rules.length (Nat.le_refl _)
  have hEq : beginE T F n (bareE T T.rules.length (startE T F)) = (List.range n).foldl (beg2 T) ((List.range n).foldl (beg1 T F) (bareE T T.rules.length (startE T F))) := rfl
  generalize hE0 : bareE T T.rules.length (startE T F) = e0 at *
  obtain ⟨i1, t1, m1, d1⟩ := beg1_all hp hs_ i0 n (Nat.le_refl _)
  generalize hE1 : (List.range n).foldl (beg1 T F) e0 = e1 at *
  obtain ⟨i2, t2, m2, d2⟩ := beg2_all hp hs_ i1 n (Nat.le_refl _)
  have hL : layE T F n = { (List.range n).foldl (beg2 T) e1 with up := 0 } := by unfold layE; rw [hE0, hEq]
  generalize (List.range n).foldl (beg2 T) e1 = e2 at *
  have t12 := t1.trans t2
  rw [hL]
  refine ⟨G, ⟨i2.x.same rfl rfl rfl rfl rfl, ⟨i2.s.a, i2.s.nn, i2.s.c, i2.s.f, i2.s.r, i2.s.w, i2.s.cb, i2.s.mm⟩, i2.y⟩, g0, fun b s => ?_, ?_, rfl, fun q hq he => ?_⟩
  · show e2.rf b s = false
    rw [t12.rf, a0.rf]; rfl
  · show e2.tk = 0
    rw [t12.tk, a0.tk]; rfl
  · show ∃ t, isTag t ∧ has e2 q t = true
    unfold early at he
    cases hf : firmB T F q with
    | false => exact ⟨2, tag2, t2.up _ _ tag2 ((d1 q hq).1 hf)⟩
    | true =>
      rw [hf] at he
      have he : openZ T F false q = true := by simpa using he
      refine ⟨1, tag1, t2.up _ _ tag1 ((d1 q hq).2 hf ?_)⟩
      rw [i0.x.op false q hq, he]
      rfl
theorem sumK_sub {f g : Nat → Int} : ∀ {k : Nat}, sumK f k - sumK g k = sumK (fun i => f i - g i) k
  | 0 => rfl
  | k + 1 => by
    show sumK f k + f k - (sumK g k + g k) = sumK (fun i => f i - g i) k + (f k - g k)
    rw [← sumK_sub]
    omega
theorem sumL_sub {f g : Int → Int} : ∀ {l : List Int}, sumL f l - sumL g l = sumL (fun i => f i - g i) l
  | [] => rfl
  | x :: l => by
    show f x + sumL f l - (g x + sumL g l) = f x - g x + sumL (fun i => f i - g i) l
    rw [← sumL_sub]
    omega
theorem lf_mono {l : List Int} {P Q : Int → Bool} (h : ∀ x ∈ l, P x = true → Q x = true) : lf l Q ≤ lf l P := by
  induction l with
  | nil => exact Int.le_refl _
  | cons x l ih =>
    have h1 := ih fun y hy => h y (List.mem_cons_of_mem _ hy)
    have h2 := h x List.mem_cons_self
    unfold lf at h1 ⊢
    cases hP : P x with
    | true =>
      rw [List.filter_cons_of_neg (by simp [h2 hP]), List.filter_cons_of_neg (by simp [hP])]
      exact h1
    | false =>
      rw [List.filter_cons_of_pos (a := x) (p := fun x => !P x) (by simp [hP])]
      cases hQ : Q x with
      | true => rw [List.filter_cons_of_neg (by simp [hQ])]; simp only [List.length_cons]; omega
      | false => rw [List.filter_cons_of_pos (by simp [hQ])]; simp only [List.length_cons]; omega
theorem sumL_filter {f : Int → Int} {P : Int → Bool} : ∀ {l : List Int}, (∀ x ∈ l, 0 ≤ f x) → sumL f (l.filter P) ≤ sumL f l
  | [], _ => Int.le_refl _
  | x :: l, h => by
    have h1 := sumL_filter (P := P) fun y hy => h y (List.mem_cons_of_mem x hy)
    have h2 := h x List.mem_cons_self
    cases hP : P x with
    | true => rw [List.filter_cons_of_pos hP]; show f x + sumL f (l.filter P) ≤ f x + sumL f l; omega
    | false => rw [List.filter_cons_of_neg (by simp [hP])]; show sumL f (l.filter P) ≤ f x + sumL f l; omega
theorem cntF_sum : ∀ {k : Nat}, (cntF m k : Int) = sumK (fun q => (cntT m q : Int)) k
  | 0 => rfl
  | k + 1 => by
    show ((cntF m k + cntT m k : Nat) : Int) = sumK (fun q => (cntT m q : Int)) k + (cntT m k : Int)
    push_cast
    rw [cntF_sum]
theorem filter_sum {P : Nat → Bool} : ∀ {k : Nat}, (((List.range k).filter P).length : Int) = sumK (fun q => b2i (P q)) k
  | 0 => rfl
  | k + 1 => by
    rw [List.range_succ, List.filter_append, List.length_append]
    push_cast
    rw [filter_sum]
    show _ = sumK (fun q => b2i (P q)) k + b2i (P k)
    cases h : P k <;> simp [h, b2i]
/-- What is early is told at the beginning. -/
theorem early_le {td : List (Int × Int)} {P : Nat → Bool} {k : Nat} (h : ∀ q : Nat, q < k → P q = true → ∃ t, ((q : Int), t) ∈ td) : sumK (fun q => b2i (P q)) k ≤ (td.length : Int) := by
  rw [← filter_sum]
  have : ((List.range k).filter P).length ≤ (td.map fun x => x.1.toNat).length := nodup_le (List.nodup_range.filter _) fun q hq => by
    obtain ⟨h1, h2⟩ := List.mem_filter.1 hq
    obtain ⟨t, ht⟩ := h q (List.mem_range.1 h1) h2
    exact List.mem_map.2 ⟨_, ht, Int.toNat_natCast q⟩
  rw [List.length_map] at this
  omega
/-- How many premises there are. -/
def preS (T : Th) : Int := sumK (fun r => bL T r) T.rules.length
/-- THE BOUND. -/
theorem linear_all (hp : Pf T F n) (hs_ : Sol T F m k) (h : Alls T F n m e) (htk : e.tk = e.td.length) (htok : Tok n e) (hcb : CB T n (layE T F n) e) (htd : ∃ l, e.td = (layE T F n).td ++ l) (hyd : ∀ z t, isTag t → has (layE T F n) z t = true → (z, t) ∈ (layE T F n).td) : 0 ≤ e.up ∧ e.up ≤ 4 * ((n : Int) + preS T + (pairsM T : Int)) := by
  obtain ⟨G, i, c, t⟩ := h.iv
  obtain ⟨GY, iY, gY, rY, kY, uY, eY⟩ := lay_facts hp hs_
  generalize layE T F n = Y at *
  have he := (end_all hp hs_ h htk).1
  have hKt : ∀ z t, isTag t → 0 ≤ z → z < (n : Int) → (Kof e z t = true ↔ hs m z t = true) := fun z t ht z0 z1 => by
    unfold Kof
    rw [htk, List.take_length, decide_eq_true_iff, ← he z t z0 z1 ht]
    constructor
    · intro hm; exact (htok.inn _ hm).2.2.2
    · exact h.td z t ht
  have tpT : ∀ b, isTag (tp b) := fun b => by cases b; exact tag1; exact tag3
  have tnT : ∀ b, isTag (tn b) := fun b => by cases b; exact tag2; exact tag4
  have hrf : ∀ b (r : Nat), r < T.rules.length → kindB T (kW b) r = true → e.rf b r = partB T m r (tn b) := fun b r hr hk => by
    rw [i.x.rf b r hr, Bool.eq_iff_iff, List.any_eq_true, prt_iff]
    constructor
    · rintro ⟨x, hx, hg⟩
      obtain ⟨x0, x1⟩ := body_in hp hr hx
      exact ⟨x, hx, (hKt x _ (tnT b) x0 x1).1 ((t.n b r x hr hk hx).1 hg)⟩
    · rintro ⟨x, hx, hg⟩
      obtain ⟨x0, x1⟩ := body_in hp hr hx
      exact ⟨x, hx, (t.n b r x hr hk hx).2 ((hKt x _ (tnT b) x0 x1).2 hg)⟩
  have kLW : ∀ b (r : Nat), r < T.rules.length → kindB T (kL b) r = true → kindB T (kW b) r = true := fun b r hr hk => by
    cases b with
    | false => exact hk
    | true => exact kA_kind hr
  -- rules
  have p1 : ∀ b, vM T e b - vM T Y b = sumK (fun r => cd2 T m b r) T.rules.length := fun b => by
    unfold vM
    rw [sumK_sub]
    refine sumK_congr fun r hr => ?_
    unfold cd2
    by_cases hk : kindB T (kW b) r = true
    · simp only [hk, if_true]
      rw [hrf b r hr hk, rY b r, i.x.ms b r hr hk, iY.x.ms b r hr hk]
      have h1 : lf (bodyM T r) (G.a b r) = lf (bodyM T r) fun x => hs m x (tp b) := lf_congr fun x hx => by
        obtain ⟨x0, x1⟩ := body_in hp hr hx
        rw [Bool.eq_iff_iff, t.a b r x hr hk hx, hKt x _ (tpT b) x0 x1]
      have h2 : lf (bodyM T r) (GY.a b r) = ((bodyM T r).length : Int) := by rw [gY.a]; exact lf_none
      have h3 := lf_cnt (l := bodyM T r) (P := fun x => hs m x (tp b))
      rw [h1, h2]
      simp only [b2i, Bool.false_eq_true, if_false]
      omega
    · simp only [hk, Bool.false_eq_true, if_false]
      omega
  -- heads
  have p2 : ∀ b, vO n e b - vO n Y b = sumK (fun q => eB T F m b q) n := fun b => by
    unfold vO
    rw [sumK_sub]
    refine sumK_congr fun q hq => ?_
    rw [i.x.op b q hq, iY.x.op b q hq]
    unfold eB
    cases ho : (openZ T F b q || (rulesL T (kL b) (q : Int)).isEmpty) with
    | true => simp only [if_true]; omega
    | false =>
      simp only [Bool.false_eq_true, if_false]
      have h1 : lf (rulesL T (kL b) (q : Int)) (G.c b) = lf (rulesL T (kL b) (q : Int)) fun r => partB T m r (tn b) := lf_congr fun r hr => by
        obtain ⟨a, rfl, ha, -, hk⟩ := rule_lt hr
        rw [Bool.eq_iff_iff, ← hrf b a ha (kLW b a ha hk)]
        exact ⟨i.s.c b a, c.gc b a ha hk⟩
      have h2 : lf (rulesL T (kL b) (q : Int)) (GY.c b) = ((rulesL T (kL b) (q : Int)).length : Int) := by rw [gY.c]; exact lf_none
      have h3 : (rulesL T (kL b) (q : Int)).length ≠ 0 := fun e0 => by
        rw [List.length_eq_zero_iff.1 e0] at ho
        simp at ho
      rw [h1, h2]
      omega
  -- beaten from the beginning, beaten now
  have cbY : ∀ (s : Nat) p, s < T.rules.length → Y.cb s p = true → e.cb s p = true := fun s p hs hy => by
    obtain ⟨u, hu, hb, ha⟩ := iY.s.cb s p hy
    obtain ⟨huR, hh, hk⟩ := mem_kind hu
    have hbd : bodyM T u = [] := by
      cases hb2 : bodyM T u with
      | nil => rfl
      | cons x l => have := ha x (by rw [hb2]; exact List.mem_cons_self); rw [gY.a] at this; cases this
    have := c.cb u huR hk ((i.x.used huR).2 fun x hx => by rw [hbd] at hx; cases hx) s (of_decide_eq_true hb)
    rw [hh] at this
    exact this
  -- obstacles
  have p3 : 0 ≤ vB T n e - vB T n Y ∧ vB T n e - vB T n Y ≤ 2 * (pairsM T : Int) := by
    unfold vB
    rw [sumK_sub]
    rw [pairs_sum hp, ← sumK_mul]
    have term : ∀ p, p < n → 0 ≤ ((if (rulesL T kT (p : Int)).isEmpty then 0 else 0 - e.ob p) - (if (rulesL T kT (p : Int)).isEmpty then 0 else 0 - Y.ob p)) ∧ ((if (rulesL T kT (p : Int)).isEmpty then 0 else 0 - e.ob p) - (if (rulesL T kT (p : Int)).isEmpty then 0 else 0 - Y.ob p)) ≤ 2 * (cR T p * sumL (cR T) (row T.foes p)) := fun p hpn => by
      have hS := sumL_nonneg (f := cR T) (l := row T.foes (p : Int)) fun _ _ => cR_nonneg
      have hmul : 0 ≤ cR T p * sumL (cR T) (row T.foes p) := Int.mul_nonneg cR_nonneg hS
      cases hte : (rulesL T kT (p : Int)).isEmpty with
      | true => simp only [if_true]; omega
      | false =>
        simp only [Bool.false_eq_true, if_false]
        have hne : rulesL T kT (p : Int) ≠ [] := fun e0 => by rw [e0] at hte; cases hte
        have hc1 : 1 ≤ cR T p := by
          have := team_le (T := T) (p := p)
          have := List.length_pos_iff.2 hne
          omega
        have hmul2 : sumL (cR T) (row T.foes p) ≤ cR T p * sumL (cR T) (row T.foes p) := by
          have := Int.mul_le_mul_of_nonneg_right hc1 hS
          rw [Int.one_mul] at this
          exact this
        rw [i.x.ob p hpn hne, iY.x.ob p hpn hne]
        have f1 : lf ((row T.foes (p : Int)).filter (firmB T F)) (fun f => GY.f f p) = (((row T.foes (p : Int)).filter (firmB T F)).length : Int) := by rw [gY.f]; exact lf_none
        have f2 := lf_cnt (l := (row T.foes (p : Int)).filter (firmB T F)) (P := fun f => G.f f p)
        have f3 : cnt ((row T.foes (p : Int)).filter (firmB T F)) (fun f => G.f f p) ≤ sumL (cR T) (row T.foes p) := by
          have := sum_filter (P := firmB T F) (Q := fun f => G.f f p) (l := row T.foes (p : Int))
          unfold cnt
          rw [← this]
          refine sumL_le fun f hf => ?_
          cases hb : (firmB T F f && G.f f p) with
          | false => simp only [b2i, Bool.false_eq_true, if_false]; exact cR_nonneg
          | true =>
            rw [Bool.and_eq_true] at hb
            obtain ⟨f0, f1⟩ := hp.foe p hpn f hf
            have h2 := (hKt f 2 tag2 f0 f1).1 ((t.f f p hb.1 (mem_rival.2 ⟨foe_sym hp (by omega) (by omega) hf, hne⟩)).1 hb.2)
            obtain ⟨hF, -⟩ := minusS_iff.1 ((sol_iff hp hs_ f0 f1 tag2).1 h2)
            have hfm := hb.1
            unfold firmB at hfm
            rw [decide_eq_false hF, Bool.false_or] at hfm
            have hle : ((rulesL T kS f).length : Int) ≤ cR T f := by
              unfold cR
              have : (rulesL T kS f).length ≤ (rulesL T kA f).length := nodup_le rules_nd fun x hx => mem_all hx
              omega
            have hpos : 0 < (rulesL T kS f).length := List.length_pos_iff.2 fun e0 => by rw [e0] at hfm; cases hfm
            simp only [b2i, if_true]
            omega
        have a1 := ag_len_sum hp hpn
        have a2 := lf_le (l := agL T p) (P := fun s => GY.r s p)
        have a3 := lf_nonneg (l := agL T p) (P := fun s => G.r s p)
        have a4 : lf (agL T p) (fun s => G.r s p) ≤ lf (agL T p) fun s => GY.r s p := lf_mono fun s hsm hg => by
          unfold agL at hsm
          obtain ⟨b, hb, rfl⟩ := List.mem_map.1 hsm
          obtain ⟨hb1, hb2⟩ := List.mem_filter.1 hb
          have hbl := List.mem_range.1 hb1
          have hrv : (p : Int) ∈ rivalsL T (headOf T b) := mem_rival.2 ⟨foe_sym hp (by omega) (by omega) (of_decide_eq_true hb2), hne⟩
          rcases iY.s.r b p hg with h5 | h5
          · rw [rY] at h5; cases h5
          · exact c.gr b hbl p hrv (.inr (cbY b p hbl h5))
        have a5 := cnt_nonneg (l := (row T.foes (p : Int)).filter (firmB T F)) (P := fun f => G.f f p)
        rw [f1]
        omega
    exact ⟨sumK_nonneg fun p hpn => (term p hpn).1, sumK_le fun p hpn => (term p hpn).2⟩
  -- clashes
  have p4 : 0 ≤ vC T e - vC T Y ∧ vC T e - vC T Y ≤ 2 * (pairsM T : Int) := by
    unfold vC
    rw [sumK_sub, pairs_rules hp, ← sumK_mul]
    have term : ∀ s, s < T.rules.length → 0 ≤ sumL (fun p => b2i (e.cb s p) - e.cd s p) (rivalsL T (headOf T s)) - sumL (fun p => b2i (Y.cb s p) - Y.cd s p) (rivalsL T (headOf T s)) ∧ sumL (fun p => b2i (e.cb s p) - e.cd s p) (rivalsL T (headOf T s)) - sumL (fun p => b2i (Y.cb s p) - Y.cd s p) (rivalsL T (headOf T s)) ≤ 2 * sumL (cR T) (row T.foes (headOf T s)) := fun s hs => by
      rw [sumL_sub]
      have one : ∀ p ∈ rivalsL T (headOf T s), 0 ≤ b2i (e.cb s p) - e.cd s p - (b2i (Y.cb s p) - Y.cd s p) ∧ b2i (e.cb s p) - e.cd s p - (b2i (Y.cb s p) - Y.cd s p) ≤ 2 * cR T p := fun p hpr => by
        rw [i.x.cd s hs p hpr, iY.x.cd s hs p hpr]
        have w1 : lf ((rulesL T kT p).filter fun u => beatB T u s) (fun u => GY.w u s) = (((rulesL T kT p).filter fun u => beatB T u s).length : Int) := by rw [gY.w]; exact lf_none
        have w2 := lf_le (l := (rulesL T kT p).filter fun u => beatB T u s) (P := fun u => G.w u s)
        have w3 := lf_nonneg (l := (rulesL T kT p).filter fun u => beatB T u s) (P := fun u => G.w u s)
        have w4 := List.length_filter_le (fun u => beatB T u s) (rulesL T kT p)
        have w5 := team_le (T := T) (p := p)
        have w6 := List.length_pos_iff.2 (mem_rival.1 hpr).2
        have w7 := b2i_le (e.cb s p)
        have w8 := b2i_le (Y.cb s p)
        have w9 : b2i (Y.cb s p) ≤ b2i (e.cb s p) := by
          cases hy : Y.cb s p with
          | false => exact w7.1
          | true => rw [cbY s p hs hy]; exact Int.le_refl _
        rw [w1]
        omega
      refine ⟨sumL_nonneg fun p hpr => (one p hpr).1, Int.le_trans (sumL_le fun p hpr => (one p hpr).2) ?_⟩
      rw [sumL_mul]
      have : sumL (cR T) (rivalsL T (headOf T s)) ≤ sumL (cR T) (row T.foes (headOf T s)) := sumL_filter fun _ _ => cR_nonneg
      omega
    exact ⟨sumK_nonneg fun s hs => (term s hs).1, sumK_le fun s hs => (term s hs).2⟩
  -- what is told
  have p5 := told_len hp hs_ h htk htok
  have p6 : sumK (fun q => b2i (early T F q)) n ≤ (Y.td.length : Int) := early_le fun q hq hq2 => by
    obtain ⟨u, hu, hh⟩ := eY q hq hq2
    exact ⟨u, hyd q u hu hh⟩
  obtain ⟨l, hl⟩ := htd
  have p7 : Y.td.length ≤ e.td.length := by rw [hl]; simp
  -- each literal with its rules
  have hloc : sumK (fun q => 3 * (cntT m q : Int) - 2 * b2i (early T F q) + sumL (fun r => cd2 T m false r + cd2 T m true r) (rulesL T kA q) + eB T F m false q + eB T F m true q) n ≤ sumK (fun q => 4 + 4 * sumL (bL T) (rulesL T kA q)) n := sumK_le fun q hq => local_le hp hs_ hq
  have g1 : sumK (fun q => sumL (fun r => cd2 T m false r + cd2 T m true r) (rulesL T kA (q : Int))) n = sumK (fun r => cd2 T m false r) T.rules.length + sumK (fun r => cd2 T m true r) T.rules.length := by
    rw [← sumK_add]
    exact (group_sum (f := fun r => cd2 T m false r + cd2 T m true r) (heads_in hp) _ (Nat.le_refl _)).symm
  have g2 : sumK (fun q => sumL (bL T) (rulesL T kA (q : Int))) n = preS T := (group_sum (f := bL T) (heads_in hp) _ (Nat.le_refl _)).symm
  have s1 : sumK (fun q => 3 * (cntT m q : Int) - 2 * b2i (early T F q) + sumL (fun r => cd2 T m false r + cd2 T m true r) (rulesL T kA q) + eB T F m false q + eB T F m true q) n = 3 * (cntF m n : Int) - 2 * sumK (fun q => b2i (early T F q)) n + (sumK (fun r => cd2 T m false r) T.rules.length + sumK (fun r => cd2 T m true r) T.rules.length) + sumK (fun q => eB T F m false q) n + sumK (fun q => eB T F m true q) n := by
    rw [sumK_add, sumK_add, sumK_add, ← sumK_sub, sumK_mul, sumK_mul, g1, cntF_sum]
  have s2 : sumK (fun q => 4 + 4 * sumL (bL T) (rulesL T kA (q : Int))) n = 4 * (n : Int) + 4 * preS T := by
    rw [sumK_add, sumK_mul, g2]
    have : ∀ j : Nat, sumK (fun _ => (4 : Int)) j = 4 * (j : Int) := by
      intro j
      induction j with
      | zero => rfl
      | succ j ih => show sumK (fun _ => (4 : Int)) j + 4 = _; rw [ih]; push_cast; omega
    rw [this]
  -- none is below nothing
  have n1 : ∀ b, 0 ≤ sumK (fun r => cd2 T m b r) T.rules.length := fun b => sumK_nonneg fun _ _ => cd2_nonneg
  have n2 : ∀ b, 0 ≤ sumK (fun q => eB T F m b q) n := fun b => sumK_nonneg fun _ _ => eB_le.1
  have hD : vV T n e - vV T n Y = (vM T e false - vM T Y false) + (vM T e true - vM T Y true) + (vO n e false - vO n Y false) + (vO n e true - vO n Y true) + (vB T n e - vB T n Y) + (vC T e - vC T Y) + 2 * ((e.td.length : Int) - (Y.td.length : Int)) + (e.td.length : Int) := by
    unfold vV
    rw [htk, kY]
    omega
  rw [p1, p1, p2, p2] at hD
  have n1f := n1 false
  have n1t := n1 true
  have n2f := n2 false
  have n2t := n2 true
  have hpr := hp.ok.pr
  have hn4 := hp.n4
  have hpre : 0 ≤ preS T ∧ preS T ≤ 16 * 4096 := by
    unfold preS
    refine ⟨sumK_nonneg fun _ _ => Int.natCast_nonneg _, ?_⟩
    have h1 : sumK (fun r => bL T r) T.rules.length ≤ sumK (fun _ => 16) T.rules.length := sumK_le fun r hr => by
      have := (body_nd hp hr).2
      unfold bL
      omega
    have h2 : ∀ j : Nat, sumK (fun _ => (16 : Int)) j = 16 * (j : Int) := by
      intro j
      induction j with
      | zero => rfl
      | succ j ih => show sumK (fun _ => (16 : Int)) j + 16 = _; rw [ih]; push_cast; omega
    have h3 := hp.ok.rl
    rw [h2] at h1
    omega
  obtain ⟨kk, hk⟩ := hcb.c
  have hrg := hcb.r (by rw [uY]; unfold rg; omega)
  unfold rg at hrg
  rw [uY] at hk
  generalize vV T n e = Ve at *
  generalize vV T n Y = Vy at *
  omega
end
end Go.Proofs.Ythifoamnmhlghaa.Fa
