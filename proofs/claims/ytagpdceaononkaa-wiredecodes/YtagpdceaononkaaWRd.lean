/- The reader: giveUp, next, octet, number, raised. -/
import Derived.Test.YtagpdceaononkaaWStp
import Derived.Test.YtagpdceaononkaaWBack
import Derived.Test.YtagpdceaononkaaORead
namespace Go.Proofs.Ytagpdceaononkaa
open Go.RowKit

/-- What a reader gives up with. -/
abbrev flt (c p : Int) : PanicEntry := { v := .iface 64 (.agg #[.int .i64 c, .int .i64 p]), recovered := false }
/-- A reader in memory. -/
structure Rd (R : Nat) (ba : Option Addr) (bc : Nat) (zs : List Int) (p : Nat) (w : World) : Prop where
  bx : Fx R 68 [.slice ba zs.length bc, .int .i64 p] w
  row : Row w ba zs
  bl : ∀ b off, ba = some ⟨b, off, none⟩ → zs ≠ [] → b < R
  cap : zs.length ≤ bc
  nil : ba = none → bc = 0
  len : zs.length ≤ 140737488351232
  pos : p ≤ zs.length
section
variable {R : Nat} {ba : Option Addr} {bc : Nat} {zs : List Int} {p q : Nat} {w w' : World}
theorem Rd.c0 (h : Rd R ba bc zs p w) : w.cell? ⟨R, 0, none⟩ = some (.slice ba zs.length bc) := h.bx.get rfl
theorem Rd.c1 (h : Rd R ba bc zs p w) : w.cell? ⟨R, 1, none⟩ = some (.int .i64 p) := h.bx.get rfl
theorem Rd.keep (h : Rd R ba bc zs p w) (hb : ∀ k, k ≤ R → w'.heap[k]? = w.heap[k]?) : Rd R ba bc zs p w' := by
  refine ⟨h.bx.keep (hb R (Nat.le_refl _)), ⟨fun hz => ?_, h.row.byte⟩, h.bl, h.cap, h.nil, h.len, h.pos⟩
  obtain ⟨b, off, e, hc⟩ := h.row.cells hz
  have hl := h.bl b off e hz
  exact ⟨b, off, e, fun i hi => (World.cell?_of_block (hb b (by omega))).trans (hc i hi)⟩
theorem Rd.lt (h : Rd R ba bc zs p w) : R < w.heap.size := h.bx.lt
theorem Rd.below (h : Rd R ba bc zs p w) (hb : Below w.heap.size w w') : Rd R ba bc zs p w' := h.keep fun k hk => hb.block k (by have := h.lt; omega)
theorem Rd.fr {Z : Nat → Prop} (h : Rd R ba bc zs p w) (hf : Fr Z w w') (hz : ∀ k, k ≤ R → ¬ Z k) : Rd R ba bc zs p w' := h.keep fun k hk => hf.block k (by have := h.lt; omega) (hz k hk)
theorem Rd.go (h : Rd R ba bc zs p w) (hq : q ≤ zs.length) : Rd R ba bc zs q (w.setCell ⟨R, 1, none⟩ (.int .i64 q)) := by
  refine ⟨h.bx.set 1 _, ⟨fun hz => ?_, h.row.byte⟩, h.bl, h.cap, h.nil, h.len, hq⟩
  obtain ⟨b, off, e, hc⟩ := h.row.cells hz
  have hl := h.bl b off e hz
  exact ⟨b, off, e, fun i hi => (World.cell?_of_block (other_set (k := b) (show b ≠ R by omega))).trans (hc i hi)⟩
end
/-- How a step of the reader ends. -/
def Eo {α : Type} (R : Nat) (ba : Option Addr) (bc : Nat) (zs : List Int) (w : World) (rep : World → α → Value → Prop) (o : Er (α × Nat)) (e : Ending) (w' : World) : Prop := Fr (fun k => k = R) w w' ∧ match o with
  | .ok x => ∃ v, e = .returned v ∧ rep w' x.1 v ∧ Rd R ba bc zs x.2 w'
  | .error c => e = .panicked [flt c.1 c.2]
section
variable {α : Type} {R : Nat} {ba : Option Addr} {bc : Nat} {zs : List Int} {w w' : World} {rep : World → α → Value → Prop} {o : Er (α × Nat)} {e : Ending}
theorem Eo.split (h : Eo R ba bc zs w rep o e w') : (∃ a q v, o = .ok (a, q) ∧ e = .returned v ∧ rep w' a v ∧ Rd R ba bc zs q w' ∧ Fr (fun k => k = R) w w') ∨ (∃ c p, o = .error (c, p) ∧ e = .panicked [flt c p] ∧ Fr (fun k => k = R) w w') := by
  obtain ⟨hf, h⟩ := h
  cases o with
  | ok x => obtain ⟨v, h1, h2, h3⟩ := h; exact .inl ⟨x.1, x.2, v, rfl, h1, h2, h3, hf⟩
  | error c => exact .inr ⟨c.1, c.2, rfl, h, hf⟩
theorem Eo.yes {a : α} {q : Nat} {v : Value} (h : o = .ok (a, q)) (hr : rep w' a v) (hd : Rd R ba bc zs q w') (hf : Fr (fun k => k = R) w w') : Eo R ba bc zs w rep o (.returned v) w' := by subst h; exact ⟨hf, v, rfl, hr, hd⟩
theorem Eo.no {c p : Int} (h : o = .error (c, p)) (hf : Fr (fun k => k = R) w w') : Eo R ba bc zs w rep o (.panicked [flt c p]) w' := by subst h; exact ⟨hf, rfl⟩
end
def vZ (_ : World) (z : Int) (v : Value) : Prop := v = .int .i64 z
theorem bind_ok {α β : Type} {o : Er α} {f : α → Er β} {r : Er β} {a : α} (h : (o >>= f) = r) (ho : o = .ok a) : f a = r := by subst ho; exact h
theorem bind_no {α β : Type} {o : Er α} {f : α → Er β} {r : Er β} {c : Int × Int} (h : (o >>= f) = r) (ho : o = .error c) : r = .error c := by subst ho; exact h.symm
set_option maxHeartbeats 1600000 in
theorem giveUp_any (a : Value) (c p : Int) (w : World) : Calls Try.prog 42 #[a, .int .i64 c, .int .i64 p] w fun e w' => e = .panicked [flt c p] ∧ w' = w := by
  go_enter Try.func42, Try.ntmps42
  go_wp2_with fail
  exact ⟨rfl, rfl, rfl⟩
theorem rd_num {zs : List Int} {p : Nat} (hp : p ≤ zs.length) (hz : ∀ i : Nat, 0 ≤ zs[i]?.getD 0 ∧ zs[i]?.getD 0 ≤ 255) : 0 ≤ (readU zs p).2.1 ∧ (readU zs p).2.1 ≤ zs.length ∧ ((readU zs p).2.2 = 0 → 0 ≤ (readU zs p).1 ∧ (readU zs p).1 < 18446744073709551616) := by
  have hr : 0 ≤ (readU zs p).2.1 ∧ (readU zs p).2.1 ≤ zs.length := by
    unfold readU
    rw [if_neg (by omega)]
    refine rd_fine _ _ _ _ _ (by omega) ?_
    rw [List.length_drop]
    omega
  have hz' : ∀ z ∈ zs, 0 ≤ z ∧ z ≤ 255 := fun z hm => by
    obtain ⟨i, hi, rfl⟩ := List.mem_iff_getElem.1 hm
    have := hz i
    rw [List.getElem?_eq_getElem hi] at this
    exact this
  refine ⟨hr.1, hr.2, fun he => ?_⟩
  have := (read_iff hz' (p := p) (q := (readU zs p).2.1.toNat) (n := (readU zs p).1)).1 (by
    have e1 : ((readU zs p).2.1.toNat : Int) = (readU zs p).2.1 := by omega
    rw [e1, ← he])
  exact this.2
def atOf (R : Nat) (w : World) : Nat := match w.cell? ⟨R, 1, none⟩ with
  | some (.int _ z) => z.toNat
  | _ => 0
theorem Rd.atOf {R : Nat} {ba : Option Addr} {bc : Nat} {zs : List Int} {p : Nat} {w : World} (h : Rd R ba bc zs p w) : atOf R w = p := by unfold Ytagpdceaononkaa.atOf; rw [h.c1]; simp
theorem Rd.byte {R : Nat} {ba : Option Addr} {bc : Nat} {zs : List Int} {p k : Nat} {w : World} (h : Rd R ba bc zs p w) (hk : k < zs.length) : ∃ b off, ba = some ⟨b, off, none⟩ ∧ w.cell? ⟨b, off + k, none⟩ = some (.int .u8 (zs.getD k 0)) := by
  obtain ⟨b, off, e, hc⟩ := h.row.cells (by intro e; subst e; simp at hk)
  exact ⟨b, off, e, hc k hk⟩
def vB (_ : World) (z : Int) (v : Value) : Prop := v = .int .u8 z
def nxtM (zs : List Int) (p : Nat) : Er (Int × Nat) := if zs.length ≤ p then .error (8, p) else .ok (zs.getD p 0, p + 1)
section
variable {R : Nat} {ba : Option Addr} {bc : Nat} {zs : List Int} {p : Nat} {w : World}
set_option maxRecDepth 100000 in
set_option maxHeartbeats 6400000 in
theorem next_any (h : Rd R ba bc zs p w) : Calls Try.prog 50 #[ptr R] w fun e w' => Eo R ba bc zs w vB (nxtM zs p) e w' := by
  obtain ⟨o, ho⟩ : ∃ o, nxtM zs p = o := ⟨_, rfl⟩
  rw [ho]
  unfold nxtM at ho
  have c0 := h.c0
  have c1 := h.c1
  have hpos := h.pos
  have hlen := h.len
  have CG := hide (fun c p X => giveUp_any (ptr R) c p X)
  have HD := hide h
  by_cases hl : zs.length ≤ p
  · rw [if_pos hl] at ho
    have HE := hide ho.symm
    obtain ⟨L, hL⟩ : ∃ L, zs.length = L := ⟨_, rfl⟩
    rw [hL] at c0 hl hpos hlen
    have hkL : L = p := by omega
    subst hkL
    clear h ho hL hl
    go_enter Try.func50, Try.ntmps50
    go_wp2_with fail
    go_quiet (fail)
    go_wp2_with (go_at_call 42; refine (CG.out _ _ _).mono ?_; rintro _ w1 ⟨rfl, hw⟩; subst w1)
    exact on_panic rfl (Eo.no HE.out (Fr.of_below (below_drewN w _)))
  · rw [if_neg hl] at ho
    have HE := hide ho.symm
    have hbb : ((p : Int) == (zs.length : Int)) = false := by simp; omega
    have hkn : ¬ p = zs.length := by omega
    have hkl : p < zs.length := by omega
    obtain ⟨b, off, rfl, kc⟩ := h.byte (k := p) hkl
    have kfr := h.bx.frz 1
    have HG : Hid (∀ nq, Rd R (some ⟨b, off, none⟩) bc zs (p + 1) ((w.drewN nq).setCell ⟨R, 1, none⟩ (.int .i64 ((p : Int) + 1)))) := hide fun nq => (h.below (below_drewN w nq)).go (q := p + 1) (by omega)
    clear h ho hl HD CG
    generalize zs.getD p 0 = x at *
    go_enter Try.func50, Try.ntmps50
    go_wp2_with fail
    go_quiet (fail)
    go_wp2_with fail
    go_quiet (fail)
    go_wp2_with fail
    go_ret
    exact Eo.yes HE.out rfl (HG.out _) ((Fr.of_below (below_drewN w _)).trans (.setCell ⟨R, 1, none⟩ _ rfl))
theorem oct_of_next {a b : Int} : octM zs a b p = nxtM zs p >>= fun x => if wiM x.1 a b then .ok x else .error (211, (p : Int)) := by
  unfold octM nxtM
  split <;> rfl
set_option maxRecDepth 100000 in
set_option maxHeartbeats 6400000 in
theorem octet_any (h : Rd R ba bc zs p w) {a b : Int} : Calls Try.prog 47 #[ptr R, .int .i64 a, .int .i64 b] w fun e w' => Eo R ba bc zs w vZ (octM zs a b p) e w' := by
  obtain ⟨o, ho⟩ : ∃ o, octM zs a b p = o := ⟨_, rfl⟩
  rw [ho]
  have HO := hide (oct_of_next.symm.trans ho)
  have c1 := h.c1
  have CN := hide (next_any h)
  have CG := hide (fun c p X => giveUp_any (ptr R) c p X)
  have hby := h.row.byte p
  have HBY : Hid (∀ x q, nxtM zs p = .ok (x, q) → 0 ≤ x ∧ x ≤ 255) := hide fun x q hx => by
    unfold nxtM at hx
    split at hx
    · cases hx
    · cases hx
      simpa [List.getD] using hby
  clear h ho hby
  go_enter Try.func47, Try.ntmps47
  go_wp2_with fail
  refine CN.out.mono ?_
  intro e w1 hE
  rcases hE.split with ⟨z, q, v, e1, rfl, e2, e3, e4⟩ | ⟨c, p', e1, rfl, e4⟩
  rotate_left
  · exact on_panic rfl (Eo.no (bind_no HO.out e1) e4)
  rw [vB] at e2
  subst e2
  obtain ⟨z0, z1⟩ := HBY.out z q e1
  have HO2 := hide (bind_ok HO.out e1)
  have H3 := hide e3
  have H4 := hide e4
  clear hE e1 e3 e4 HO CN HBY
  by_cases hw : wiM z a b = false
  · have HE : Hid (o = .error (211, (p : Int))) := hide (by rw [← HO2.out, hw]; rfl)
    have C1 := hide (within_is hw)
    clear HO2 hw
    go_wp2_with (first | (go_at_call 34; refine (C1.out _).mono ?_; rintro _ w2 ⟨rfl, hw⟩; subst w2; clear C1) | (go_at_call 42; refine (CG.out _ _ _).mono ?_; rintro _ w3 ⟨rfl, hw⟩; subst w3))
    exact on_panic rfl (Eo.no HE.out H4.out)
  · have HE : Hid (o = .ok (z, q)) := hide (by rw [← HO2.out, nf hw]; rfl)
    have C1 := hide (within_is (nf hw))
    clear HO2 hw CG
    go_wp2_with (go_at_call 34; refine (C1.out _).mono ?_; rintro _ w2 ⟨rfl, hw⟩; subst w2; clear C1)
    go_ret
    exact Eo.yes HE.out rfl H3.out H4.out
set_option maxRecDepth 100000 in
set_option maxHeartbeats 6400000 in
theorem number_any (h : Rd R ba bc zs p w) {most : Int} (h0 : 0 ≤ most) (h1 : most < 9223372036854775808) :
    Calls Try.prog 48 #[ptr R, .int .i64 most] w fun e w' => Eo R ba bc zs w vZ (numM zs most p) e w' := by
  obtain ⟨b1, b2, b3⟩ := rd_num h.pos h.row.byte
  have CR : Hid (∀ q, Calls Try.prog 52 #[.slice ba zs.length bc, .int .i64 p] (w.drewN q) fun e w' => e = .returned (trip (readU zs p)) ∧ w' = w.drewN q) := hide fun q => readUint_any ba zs.length bc zs p (w.drewN q) rfl (by have := h.len; omega) h.cap h.nil (h.below (below_drewN w q)).row
  obtain ⟨o, ho⟩ : ∃ o, numM zs most p = o := ⟨_, rfl⟩
  rw [ho]
  unfold numM at ho
  obtain ⟨n, t, e, hr⟩ : ∃ n t e, readU zs p = (n, t, e) := ⟨_, _, _, rfl⟩
  rw [hr] at ho b1 b2 b3 CR
  unfold trip at CR
  simp only at ho b1 b2 b3 CR
  have c0 := h.c0
  have c1 := h.c1
  have kfr := h.bx.frz 1
  have HH := hide h
  have HO := hide ho
  have hw1 : IntKind.u64.wrap most = most := by rw [IntKind.wrap_u64]; omega
  clear h ho hr
  go_enter Try.func48, Try.ntmps48
  go_upto_region 1 with fail
  go_quiet ((go_at_call 52; exact Calls.quiet_of_same (CR.out _)))
  by_cases he : e = 0
  · obtain ⟨n0, n1⟩ := b3 he
    subst he
    have HO2 := HO
    rw [if_neg (by simp)] at HO2
    obtain ⟨q, rfl⟩ := Int.eq_ofNat_of_zero_le b1
    by_cases hl : most < n
    · have HE : Hid (o = .error (211, (p : Int))) := hide (by have := HO2.out; rw [if_pos hl] at this; exact this.symm)
      have CG := hide (fun X => giveUp_any (ptr R) 211 p X)
      clear HO HO2
      go_wp2_with (go_at_call 42; refine (CG.out _).mono ?_; rintro _ w1 ⟨rfl, hw⟩; subst w1)
      exact on_panic rfl (Eo.no HE.out (Fr.of_below (below_drewN w _)))
    · have HE : Hid (o = .ok (n, q)) := hide (by have := HO2.out; rw [if_neg (by omega)] at this; rw [← this]; simp)
      have hw3 : IntKind.i64.wrap n = n := by rw [IntKind.wrap_i64]; omega
      have HR : Hid (∀ nq, Rd R ba bc zs q ((w.drewN nq).setCell ⟨R, 1, none⟩ (.int .i64 q))) := hide fun nq => (HH.out.below (below_drewN w nq)).go (by omega)
      clear HO HO2
      go_wp2_with fail
      go_ret
      exact Eo.yes HE.out rfl (HR.out _) ((Fr.of_below (below_drewN w _)).trans (.setCell ⟨R, 1, none⟩ (.int .i64 q) rfl))
  · have HE : Hid (o = .error (e, t)) := hide (by have := HO.out; rw [if_pos he] at this; exact this.symm)
    have heb : (e != 0) = true := by simpa using he
    have CG := hide (fun X => giveUp_any (ptr R) e t X)
    clear HO b3
    go_wp2_with (go_at_call 42; refine (CG.out _).mono ?_; rintro _ w1 ⟨rfl, hw⟩; subst w1)
    exact on_panic rfl (Eo.no HE.out (Fr.of_below (below_drewN w _)))
theorem num_in {most : Int} {z : Int} {q : Nat} (hz : ∀ z ∈ zs, 0 ≤ z ∧ z ≤ 255) (h0 : most < 18446744073709551616) (h : numM zs most p = .ok (z, q)) : 0 ≤ z ∧ z ≤ most := ((num_iff hz h0).1 h).2
theorem Rd.bytes (h : Rd R ba bc zs p w) : ∀ z ∈ zs, 0 ≤ z ∧ z ≤ 255 := fun z hm => by
  obtain ⟨i, hi, rfl⟩ := List.mem_iff_getElem.1 hm
  have := h.row.byte i
  rw [List.getElem?_eq_getElem hi] at this
  exact this
set_option maxRecDepth 100000 in
set_option maxHeartbeats 3200000 in
theorem raised_any (h : Rd R ba bc zs p w) {most : Int} (h0 : 0 ≤ most) (h1 : most < 100000) :
    Calls Try.prog 53 #[ptr R, .int .i64 most] w fun e w' => Eo R ba bc zs w vZ (raiM zs most p) e w' := by
  have CN := hide (number_any h (most := most + 1) (by omega) (by omega))
  have HB := hide h.bytes
  obtain ⟨o, ho⟩ : ∃ o, raiM zs most p = o := ⟨_, rfl⟩
  rw [ho]
  unfold raiM at ho
  have HO := hide ho
  have hw : IntKind.i64.wrap (most - -1) = most + 1 := by rw [IntKind.wrap_i64]; omega
  clear h ho
  go_enter Try.func53, Try.ntmps53
  go_wp2_with fail
  refine CN.out.mono ?_
  intro e w1 hE
  rcases hE.split with ⟨z, q, v, e1, rfl, e2, e3, e4⟩ | ⟨c, p', e1, rfl, e4⟩
  rotate_left
  · exact on_panic rfl (Eo.no (bind_no HO.out e1) e4)
  rw [vZ] at e2
  subst e2
  obtain ⟨z0, z1⟩ := num_in HB.out (by omega) e1
  have HE : Hid (o = .ok (z - 1, q)) := hide (bind_ok HO.out e1).symm
  have hw2 : IntKind.i64.wrap (z + -1) = z - 1 := by rw [IntKind.wrap_i64]; omega
  have H3 := hide e3
  have H4 := hide e4
  clear hE e1 e3 e4 HO CN HB
  go_wp2_with fail
  go_ret
  exact Eo.yes HE.out rfl H3.out H4.out
end
end Go.Proofs.Ytagpdceaononkaa
