/- The reader: giveUp, number, count. -/
import Derived.Test.YtdmnoeooljofcaaEnc
import Derived.Test.YtdmnoeooljofcaaORead
namespace Go.Proofs.Ytdmnoeooljofcaa
open Go.RowKit

/-- What a reader gives up with. -/
abbrev flt (c p : Int) : PanicEntry := { v := .iface 56 (.agg #[.int .i64 c, .int .i64 p]), recovered := false }
/-- A reader in memory. -/
structure Rd (R : Nat) (ba : Option Addr) (bc : Nat) (zs : List Int) (p : Nat) (w : World) : Prop where
  bx : Fx R 60 [.slice ba zs.length bc, .int .i64 p] w
  row : Row w ba zs
  bl : ∀ b off, ba = some ⟨b, off, none⟩ → zs ≠ [] → b < R
  cap : zs.length ≤ bc
  nil : ba = none → bc = 0
  len : zs.length ≤ 140737488351232
  pos : p ≤ zs.length
section
variable {R : Nat} {ba : Option Addr} {bc : Nat} {zs : List Int} {p q : Nat} {w w' : World}
theorem Rd.c0 (h : Rd R ba bc zs p w) : w.cell? ⟨R, 0, none⟩ = some (.slice ba zs.length bc) := h.bx.get rfl
theorem Rd.c1 (h : Rd R ba bc zs p w) : w.cell? ⟨R, 1, none⟩ = some (.int .i64 p) := h.bx.get rfl
theorem Rd.keep (h : Rd R ba bc zs p w) (hb : ∀ k, k ≤ R → w'.heap[k]? = w.heap[k]?) : Rd R ba bc zs p w' := by
  refine ⟨h.bx.keep (hb R (Nat.le_refl _)), ⟨fun hz => ?_, h.row.byte⟩, h.bl, h.cap, h.nil, h.len, h.pos⟩
  obtain ⟨b, off, e, hc⟩ := h.row.cells hz
  have hl := h.bl b off e hz
  exact ⟨b, off, e, fun i hi => (World.cell?_of_block (hb b (by omega))).trans (hc i hi)⟩
theorem Rd.lt (h : Rd R ba bc zs p w) : R < w.heap.size := h.bx.lt
theorem Rd.below (h : Rd R ba bc zs p w) (hb : Below w.heap.size w w') : Rd R ba bc zs p w' := h.keep fun k hk => hb.block k (by have := h.lt; omega)
theorem Rd.fr {Z : Nat → Prop} (h : Rd R ba bc zs p w) (hf : Fr Z w w') (hz : ∀ k, k ≤ R → ¬ Z k) : Rd R ba bc zs p w' := h.keep fun k hk => hf.block k (by have := h.lt; omega) (hz k hk)
theorem Rd.go (h : Rd R ba bc zs p w) (hq : q ≤ zs.length) : Rd R ba bc zs q (w.setCell ⟨R, 1, none⟩ (.int .i64 q)) := by
  refine ⟨h.bx.set 1 _, ⟨fun hz => ?_, h.row.byte⟩, h.bl, h.cap, h.nil, h.len, hq⟩
  obtain ⟨b, off, e, hc⟩ := h.row.cells hz
  have hl := h.bl b off e hz
  exact ⟨b, off, e, fun i hi => (World.cell?_of_block (other_set (k := b) (show b ≠ R by omega))).trans (hc i hi)⟩
end
/-- How a step of the reader ends. -/
def Eo {α : Type} (R : Nat) (ba : Option Addr) (bc : Nat) (zs : List Int) (w : World) (rep : World → α → Value → Prop) (o : Er (α × Nat)) (e : Ending) (w' : World) : Prop := Fr (fun k => k = R) w w' ∧ match o with
  | .ok x => ∃ v, e = .returned v ∧ rep w' x.1 v ∧ Rd R ba bc zs x.2 w'
  | .error c => e = .panicked [flt c.1 c.2]
section
variable {α : Type} {R : Nat} {ba : Option Addr} {bc : Nat} {zs : List Int} {w w' : World} {rep : World → α → Value → Prop} {o : Er (α × Nat)} {e : Ending}
theorem Eo.split (h : Eo R ba bc zs w rep o e w') : (∃ a q v, o = .ok (a, q) ∧ e = .returned v ∧ rep w' a v ∧ Rd R ba bc zs q w' ∧ Fr (fun k => k = R) w w') ∨ (∃ c p, o = .error (c, p) ∧ e = .panicked [flt c p] ∧ Fr (fun k => k = R) w w') := by
  obtain ⟨hf, h⟩ := h
  cases o with
  | ok x => obtain ⟨v, h1, h2, h3⟩ := h; exact .inl ⟨x.1, x.2, v, rfl, h1, h2, h3, hf⟩
  | error c => exact .inr ⟨c.1, c.2, rfl, h, hf⟩
theorem Eo.yes {a : α} {q : Nat} {v : Value} (h : o = .ok (a, q)) (hr : rep w' a v) (hd : Rd R ba bc zs q w') (hf : Fr (fun k => k = R) w w') : Eo R ba bc zs w rep o (.returned v) w' := by subst h; exact ⟨hf, v, rfl, hr, hd⟩
theorem Eo.no {c p : Int} (h : o = .error (c, p)) (hf : Fr (fun k => k = R) w w') : Eo R ba bc zs w rep o (.panicked [flt c p]) w' := by subst h; exact ⟨hf, rfl⟩
end
def vZ (_ : World) (z : Int) (v : Value) : Prop := v = .int .i64 z
theorem bind_ok {α β : Type} {o : Er α} {f : α → Er β} {r : Er β} {a : α} (h : (o >>= f) = r) (ho : o = .ok a) : f a = r := by subst ho; exact h
theorem bind_no {α β : Type} {o : Er α} {f : α → Er β} {r : Er β} {c : Int × Int} (h : (o >>= f) = r) (ho : o = .error c) : r = .error c := by subst ho; exact h.symm
set_option maxHeartbeats 1600000 in
theorem giveUp_any (a : Value) (c p : Int) (w : World) : Calls Try.prog 43 #[a, .int .i64 c, .int .i64 p] w fun e w' => e = .panicked [flt c p] ∧ w' = w := by
  go_enter Try.func43, Try.ntmps43
  go_wp2_with fail
  exact ⟨rfl, rfl, rfl⟩
theorem rd_num {zs : List Int} {p : Nat} (hp : p ≤ zs.length) (hz : ∀ i : Nat, 0 ≤ zs[i]?.getD 0 ∧ zs[i]?.getD 0 ≤ 255) : 0 ≤ (readU zs p).2.1 ∧ (readU zs p).2.1 ≤ zs.length ∧ ((readU zs p).2.2 = 0 → 0 ≤ (readU zs p).1 ∧ (readU zs p).1 < 18446744073709551616) := by
  have hr : 0 ≤ (readU zs p).2.1 ∧ (readU zs p).2.1 ≤ zs.length := by
    unfold readU
    rw [if_neg (by omega)]
    refine rd_fine _ _ _ _ _ (by omega) ?_
    rw [List.length_drop]
    omega
  have hz' : ∀ z ∈ zs, 0 ≤ z ∧ z ≤ 255 := fun z hm => by
    obtain ⟨i, hi, rfl⟩ := List.mem_iff_getElem.1 hm
    have := hz i
    rw [List.getElem?_eq_getElem hi] at this
    exact this
  refine ⟨hr.1, hr.2, fun he => ?_⟩
  have := (read_iff hz' (p := p) (q := (readU zs p).2.1.toNat) (n := (readU zs p).1)).1 (by
    have e1 : ((readU zs p).2.1.toNat : Int) = (readU zs p).2.1 := by omega
    rw [e1, ← he])
  exact this.2
set_option maxRecDepth 100000 in
set_option maxHeartbeats 6400000 in
theorem number_any {R : Nat} {ba : Option Addr} {bc : Nat} {zs : List Int} {p : Nat} {w : World} (h : Rd R ba bc zs p w) {least below other : Int} (h0 : 0 ≤ least) (h1 : least < 9223372036854775808) (h2 : 0 ≤ below) (h3 : below < 9223372036854775808) :
    Calls Try.prog 59 #[ptr R, .int .i64 least, .int .i64 below, .int .i64 other] w fun e w' => Eo R ba bc zs w vZ (numM zs least below other p) e w' := by
  obtain ⟨b1, b2, b3⟩ := rd_num h.pos h.row.byte
  have CR : Hid (∀ q, Calls Try.prog 71 #[.slice ba zs.length bc, .int .i64 p] (w.drewN q) fun e w' => e = .returned (trip (readU zs p)) ∧ w' = w.drewN q) := hide fun q => readUint_any ba zs.length bc zs p (w.drewN q) rfl (by have := h.len; omega) h.cap h.nil (h.below (below_drewN w q)).row
  obtain ⟨o, ho⟩ : ∃ o, numM zs least below other p = o := ⟨_, rfl⟩
  rw [ho]
  unfold numM at ho
  obtain ⟨n, t, e, hr⟩ : ∃ n t e, readU zs p = (n, t, e) := ⟨_, _, _, rfl⟩
  rw [hr] at ho b1 b2 b3 CR
  unfold trip at CR
  simp only at ho b1 b2 b3 CR
  have c0 := h.c0
  have c1 := h.c1
  have kfr := h.bx.frz 1
  have HH := hide h
  have HO := hide ho
  have hw1 : IntKind.u64.wrap least = least := by rw [IntKind.wrap_u64]; omega
  have hw2 : IntKind.u64.wrap below = below := by rw [IntKind.wrap_u64]; omega
  clear h ho hr
  go_enter Try.func59, Try.ntmps59
  go_upto_region 1 with fail
  go_quiet ((go_at_call 71; exact Calls.quiet_of_same (CR.out _)))
  by_cases he : e = 0
  · obtain ⟨n0, n1⟩ := b3 he
    subst he
    have HO2 := HO
    rw [if_neg (by simp)] at HO2
    obtain ⟨q, rfl⟩ := Int.eq_ofNat_of_zero_le b1
    by_cases hl : n < least
    · have HE : Hid (o = .error (other, (p : Int))) := hide (by have := HO2.out; rw [if_pos (.inl hl)] at this; exact this.symm)
      have CG := hide (fun X => giveUp_any (ptr R) other p X)
      clear HO HO2
      go_wp2_with (go_at_call 43; refine (CG.out _).mono ?_; rintro _ w1 ⟨rfl, hw⟩; subst w1)
      exact on_panic rfl (Eo.no HE.out (Fr.of_below (below_drewN w _)))
    · by_cases hl2 : below ≤ n
      · have HE : Hid (o = .error (other, (p : Int))) := hide (by have := HO2.out; rw [if_pos (.inr hl2)] at this; exact this.symm)
        have CG := hide (fun X => giveUp_any (ptr R) other p X)
        clear HO HO2
        go_wp2_with (go_at_call 43; refine (CG.out _).mono ?_; rintro _ w1 ⟨rfl, hw⟩; subst w1)
        exact on_panic rfl (Eo.no HE.out (Fr.of_below (below_drewN w _)))
      · have HE : Hid (o = .ok (n, q)) := hide (by have := HO2.out; rw [if_neg (by omega)] at this; rw [← this]; simp)
        have hw3 : IntKind.i64.wrap n = n := by rw [IntKind.wrap_i64]; omega
        have HR : Hid (∀ nq, Rd R ba bc zs q ((w.drewN nq).setCell ⟨R, 1, none⟩ (.int .i64 q))) := hide fun nq => (HH.out.below (below_drewN w nq)).go (by omega)
        clear HO HO2
        go_wp2_with fail
        go_ret
        exact Eo.yes HE.out rfl (HR.out _) ((Fr.of_below (below_drewN w _)).trans (.setCell ⟨R, 1, none⟩ (.int .i64 q) rfl))
  · have HE : Hid (o = .error (e, t)) := hide (by have := HO.out; rw [if_pos he] at this; exact this.symm)
    have heb : (e != 0) = true := by simpa using he
    have CG := hide (fun X => giveUp_any (ptr R) e t X)
    clear HO b3
    go_wp2_with (go_at_call 43; refine (CG.out _).mono ?_; rintro _ w1 ⟨rfl, hw⟩; subst w1)
    exact on_panic rfl (Eo.no HE.out (Fr.of_below (below_drewN w _)))
set_option maxRecDepth 100000 in
set_option maxHeartbeats 3200000 in
theorem count_any {R : Nat} {ba : Option Addr} {bc : Nat} {zs : List Int} {p : Nat} {w : World} (h : Rd R ba bc zs p w) {most : Int} (h0 : 0 ≤ most) (h1 : most ≤ 100000) :
    Calls Try.prog 39 #[ptr R, .int .i64 most] w fun e w' => Eo R ba bc zs w vZ (countM zs most p) e w' := by
  have CN := hide (number_any h (least := 0) (below := most + 1) (other := 3) (by omega) (by omega) (by omega) (by omega))
  clear h
  unfold countM
  go_enter Try.func39, Try.ntmps39
  go_wp2_with fail
  refine CN.out.mono ?_
  intro e w1 hE
  rcases hE.split with ⟨z, q, v, h1, rfl, h2, h3, h4⟩ | ⟨c, p', h1, rfl, h4⟩
  · rw [vZ] at h2
    subst h2
    have H1 := hide h1
    have H3 := hide h3
    have H4 := hide h4
    clear hE h1 h3 h4
    go_wp2_with fail
    go_ret
    exact Eo.yes H1.out rfl H3.out H4.out
  · exact on_panic rfl (Eo.no h1 h4)
end Go.Proofs.Ytdmnoeooljofcaa
