/- The strict steps keep what is accounted. PLAIN. -/
import Derived.Test.YthifoamnmhlghaaGreatGy
namespace Go.Proofs.YthifoamnmhlghaaGreat.Fa

section
variable {T : Th} {F : List Int} {n k : Nat} {m : List Int} {G G' : Gho} {e e' : Es}
theorem P3.ms (h : P3 T n e) (hu : e'.ms true = e.ms true) (ho : e'.ob = e.ob) (hh : ∀ z, has e z 3 = true → has e' z 3 = true) : P3 T n e' := fun q hq ha h0 => hh _ (h q hq (by
  have : used e' = used e := by funext r; unfold Fa.used; rw [hu]
  rw [this] at ha; exact ha) (by rw [ho] at h0; exact h0))
/-- The users of a literal. -/
theorem user_in {b : Bool} {z r : Int} (h : r ∈ usersL T b z) : ∃ a : Nat, r = (a : Int) ∧ a < T.rules.length ∧ kindB T (kW b) a = true ∧ z ∈ bodyM T a := by
  unfold usersL useK at h
  obtain ⟨a, ha, rfl⟩ := List.mem_map.1 h
  obtain ⟨h1, h2⟩ := List.mem_filter.1 ha
  unfold isUse at h2
  split at h2
  · rename_i x hx
    rw [Bool.and_eq_true] at h2
    obtain ⟨k1, -, k3⟩ := kind_at (p := kW b) hx
    exact ⟨a, rfl, List.mem_range.1 h1, by rw [k1]; exact h2.1, by rw [k3]; exact of_decide_eq_true h2.2⟩
  · cases h2
theorem user_mem {b : Bool} {z : Int} {a : Nat} (ha : a < T.rules.length) (hk : kindB T (kW b) a = true) (hz : z ∈ bodyM T a) : (a : Int) ∈ usersL T b z := by
  unfold usersL useK
  refine List.mem_map.2 ⟨a, List.mem_filter.2 ⟨List.mem_range.2 ha, ?_⟩, rfl⟩
  obtain ⟨x, hx⟩ := get_at ha
  obtain ⟨k1, -, k3⟩ := kind_at (p := kW b) hx
  unfold isUse
  rw [hx]
  rw [k1] at hk
  rw [k3] at hz
  simp [hk, hz]
theorem users_nd {b : Bool} {z : Int} : (usersL T b z).Nodup := by
  unfold usersL useK
  refine List.Pairwise.map _ (fun a b h => ?_) ((List.nodup_range).filter _)
  intro e
  exact h (Int.ofNat.inj e)
/-- More told, rules refuted and clashes as they were. -/
structure Tem (e e' : Es) : Prop where
  rf : e'.rf = e.rf
  cb : e'.cb = e.cb
  cd : e'.cd = e.cd
  ob : e'.ob = e.ob
  op : e'.op = e.op
  tk : e'.tk = e.tk
  mt : e'.ms true = e.ms true
  up : ∀ z t, isTag t → has e z t = true → has e' z t = true
  td : ∃ l, e'.td = e.td ++ l
theorem Tem.refl : Tem e e := ⟨rfl, rfl, rfl, rfl, rfl, rfl, rfl, fun _ _ _ h => h, [], by simp⟩
theorem Tem.trans {e2 : Es} (h : Tem e e') (h2 : Tem e' e2) : Tem e e2 := by
  obtain ⟨l, hl⟩ := h.td
  obtain ⟨l2, hl2⟩ := h2.td
  exact ⟨h2.rf.trans h.rf, h2.cb.trans h.cb, h2.cd.trans h.cd, h2.ob.trans h.ob, h2.op.trans h.op, h2.tk.trans h.tk, h2.mt.trans h.mt, fun z t ht hz => h2.up z t ht (h.up z t ht hz), l ++ l2, by rw [hl2, hl, List.append_assoc]⟩
theorem tem_tell (hby : ∀ q, isByte (e.mq q)) {q t : Int} (ht : isTag t) : Tem e (tell e q t) :=
  have h := tel_tell hby (q := q) ht
  ⟨h.rf, h.cb, tell_ob.2.1, tell_ob.1, tell_ob.2.2, h.tk, by rw [h.ms], h.up, h.td⟩
theorem Iv.plusS1 (hp : Pf T F n) (hs_ : Sol T F m k) (h : Iv T F n m G e) {r : Nat} {q : Int} (hr : r < T.rules.length) (hk : kindB T (kW false) r = true) (hq : q ∈ bodyM T r) (hn : G.a false r q = false) (hh : has e q 1 = true) :
    Iv T F n m { G with a := updB G.a false (mk2 (G.a false) r q) } (plusS1 T e r) ∧ Tem e (plusS1 T e r) ∧ ((plusS1 T e r).ms false r = 0 → has (plusS1 T e r) (headOf T r) 1 = true) ∧ ∀ u, u ≠ (r : Int) → (plusS1 T e r).ms false u = e.ms false u := by
  have h1 := h.met hp (b := false) hr hk hq hn hh
  have k1 : Tem e (metE e false r) := ⟨rfl, rfl, rfl, rfl, rfl, rfl, (show updB e.ms false (upd (e.ms false) r (dec (e.ms false r))) true = e.ms true from updB_off (by decide)), fun _ _ _ hz => hz, [], by simp [metE]⟩
  have m1 : ∀ u, u ≠ (r : Int) → (metE e false r).ms false u = e.ms false u := fun u hu => by
    show updB e.ms false (upd (e.ms false) r (dec (e.ms false r))) false u = e.ms false u
    rw [updB_at, upd_off hu]
  unfold Fa.plusS1
  dsimp only
  by_cases hc : (metE e false r).ms false r = 0
  · rw [if_pos hc]
    have t2 := tel_tell h1.y (q := headOf T r) tag1
    refine ⟨h1.tell tag1 (may1 hp hs_ h1.x h1.s hr hk hc), k1.trans (tem_tell h1.y tag1), fun _ => tell_has h1.y tag1, fun u hu => by rw [t2.ms]; exact m1 u hu⟩
  · rw [if_neg hc]
    exact ⟨h1, k1, fun h2 => absurd h2 hc, m1⟩
end
end Go.Proofs.YthifoamnmhlghaaGreat.Fa
