/- theory.Cone. -/
import Derived.Test.YtdmnoeooljofcaaCn1C
namespace Go.Proofs.Ytdmnoeooljofcaa.Cz
open Go.RowKit

theorem risesF_in {b : Int} : ∀ {l : List Int} {p : Int}, -1 ≤ p → risesF b p l = true → ∀ x ∈ l, 0 ≤ x ∧ x < b
  | [], _, _, _, x, hx => by cases hx
  | y :: l, p, hp, h, x, hx => by
    unfold risesF at h
    split at h
    · cases h
    · rename_i hn
      rcases List.mem_cons.1 hx with rfl | hx
      · omega
      · exact risesF_in (p := y) (by omega) h x hx
theorem ok_wh {T : Th} (h : OkT T) : Wh T T.lits.toNat := by
  have h0 := h.l0
  have h1 := h.l1
  have hl : ((T.lits.toNat : Nat) : Int) = T.lits := by omega
  have foe : ∀ x y, y ∈ row T.foes x → 0 ≤ y ∧ y < T.lits := by
    intro x y hy
    unfold row at hy
    rw [List.getD_eq_getElem?_getD] at hy
    cases e : T.foes[x.toNat]? with
    | none => rw [e] at hy; simp at hy
    | some l => rw [e] at hy; exact risesF_in (by omega) (h.foe _ l e).2.1 y hy
  refine ⟨by omega, hl.symm, h.rl, fun r hr => (h.rule r hr).2.2.2.2.1, fun r hr x hx => by rw [hl]; exact risesF_in (by omega) (h.rule r hr).2.2.2.2.2 x hx, by have := h.fl; omega, foe, fun r hr => ⟨(h.rule r hr).2.2.1, (h.rule r hr).2.2.2.1⟩, fun r hr => risesF_in (by omega) (h.rule r hr).2.2.2.2.2⟩
/-- What Cone answers. -/
def Cnd (T : Th) (l : List Int) (w : World) (e : Ending) (w' : World) : Prop :=
  ((checkM T).1 ≠ 0 ∧ e = .returned (.tuple #[.slice none 0 0, .int .i64 (checkM T).1])) ∨
  ((checkM T).1 = 0 ∧ (∃ x ∈ l, ¬ (0 ≤ x ∧ x < T.lits)) ∧ e = .returned (.tuple #[.slice none 0 0, .int .i64 91])) ∨
  ((checkM T).1 = 0 ∧ (∀ x ∈ l, 0 ≤ x ∧ x < T.lits) ∧ ∃ (R : List Bool) (xa : Option Addr) (xc : Nat), R.length = T.lits.toNat ∧ (∀ y, 0 ≤ y → (hit R y = true ↔ Rch T l y)) ∧ e = .returned (.tuple #[.slice xa (placesM R).length xc, .int .i64 0]) ∧ w'.ownsRow w.heap.size 3 1 (.slice xa (placesM R).length xc) (placesM R).length (ints (placesM R)))
set_option maxRecDepth 100000 in
set_option maxHeartbeats 6400000 in
theorem cone_any {w : World} {T : Th} {fa ra ba : Option Addr} {fc rc bc : Nat} {l : List Int} {a : Option Addr} {c : Nat} (h : TA w.heap.size w T fa fc ra rc ba bc) (hli : Ints w.heap.size w l (.slice a l.length c)) :
    Calls Try.prog 18 #[tv T fa fc ra rc ba bc, .slice a l.length c] w fun e w' => Cnd T l w e w' ∧ Below w.heap.size w w' := by
  have hB := below_new w (.cells #[.int .i64 T.lits, .slice fa T.foes.length fc, .slice ra T.rules.length rc, .slice ba T.beats.length bc] 27)
  have hX := heap_alloc_new w (.cells #[.int .i64 T.lits, .slice fa T.foes.length fc, .slice ra T.rules.length rc, .slice ba T.beats.length bc] 27)
  have HLI := hide (Ints.go hB hli)
  have hlim := hli.lim
  have hL := TR.go hB h
  have CC := hide (check_any hL)
  have HL := hide hL
  have HB := hide hB
  have HX := hide hX
  obtain ⟨e0, p0, hab⟩ : ∃ a b, checkM T = (a, b) := ⟨_, _, rfl⟩
  rw [hab] at CC
  unfold dup at CC
  simp only at CC
  have HE : Hid ((checkM T).1 = e0) := hide (by rw [hab])
  clear h hB hL hab hli
  go_enter Try.func18, Try.ntmps18
  go_upto_region 1 with fail
  generalize w.alloc (.cells #[.int .i64 T.lits, .slice fa T.foes.length fc, .slice ra T.rules.length rc, .slice ba T.beats.length bc] 27) = W at *
  obtain ⟨-, c0, c1, c2, c3⟩ := Bt.of hX
  clear hX
  by_cases ha : e0 = 0
  · subst ha
    go_upto_region 4 with (go_at_call 31; refine CC.out.mono ?_; rintro _ w1 ⟨rfl, hw1⟩; have HB1 := hide (HB.out.trans (hw1.mono HB.out.size)); have HL1 := hide (TR.go hw1 HL.out); have HI1 := hide (Ints.go hw1 HLI.out); have HX1 := hide ((hw1.block _ (loc_lt HX.out)).trans HX.out); clear hw1)
    clear c0 c1 c2 c3 CC HL HB HX HLI
    obtain ⟨-, c0, c1, c2, c3⟩ := Bt.of HX1.out
    go_upto_region 5 with fail
    have CW := hide within_any
    go_loopw [20] (fun x wr => ∃ k : Nat, k ≤ l.length ∧ x = .int .i64 k ∧ Hid (∀ x ∈ l.take k, 0 ≤ x ∧ x < T.lits) ∧ wr = w1) (fun x _ => l.length - (intOf x).toNat)
    case atStart => exact ⟨0, by omega, rfl, hide (by simp), rfl⟩
    case round =>
      obtain ⟨k, hk, rfl, HA, rfl⟩ := hrel
      by_cases hlt : k < l.length
      · obtain ⟨x, hx⟩ := get_at hlt
        obtain ⟨ga, oa, rfl, hga, cx⟩ := at_I HI1.out hx
        cases hin : inM x T.lits with
        | true =>
          have HR : Hid (∀ x ∈ l.take (k + 1), 0 ≤ x ∧ x < T.lits) := hide (by
            intro y hy
            rw [take_snoc hx] at hy
            rcases List.mem_append.1 hy with h | h
            · exact HA.out y h
            · have : y = x := by simpa using h
              subst this
              unfold inM at hin
              simpa using hin)
          have CW1 := hide (CW.out x T.lits wr)
          rw [hin] at CW1
          clear hx hin HA
          go_wp2_with (go_at_call 33; refine CW1.out.mono ?_; rintro _ w2 ⟨rfl, rfl⟩)
          go_roundw
          case rel => exact ⟨k + 1, by omega, by go_num, HR, by first | trivial | rfl⟩
          case measure => simp [intOf]; omega
        | false =>
          have HR : Hid (∃ x ∈ l, ¬ (0 ≤ x ∧ x < T.lits)) := hide ⟨x, List.mem_of_getElem? hx, by unfold inM at hin; simpa using hin⟩
          have CW1 := hide (CW.out x T.lits wr)
          rw [hin] at CW1
          clear hx hin HA
          go_wp2_with (go_at_call 33; refine CW1.out.mono ?_; rintro _ w2 ⟨rfl, rfl⟩)
          go_ret2
          exact ⟨.inr (.inl ⟨HE.out, HR.out, rfl⟩), HB1.out⟩
      · have hkb : l.take k = l := List.take_of_length_le (by omega)
        have HR : Hid (∀ x ∈ l, 0 ≤ x ∧ x < T.lits) := hide (by have := HA.out; rw [hkb] at this; exact this)
        have hok := check_ok HE.out
        have CO := hide (coneOf_any HL1.out (ok_wh hok) HI1.out (by have := hok.l0; intro x hx; have := HR.out x hx; omega))
        clear hkb HA hok
        go_wp2_with (go_at_call 36; refine CO.out.mono ?_; rintro _ w2 ⟨R, xa, xc, h1, h2, rfl, ho, hw2⟩; have HF := hide h1; have HG := hide h2; have HO := hide ho; have HW2 := hide hw2; clear h1 h2 ho hw2)
        go_ret2
        have hs := HB1.out.size
        refine ⟨.inr (.inr ⟨HE.out, HR.out, R, xa, xc, HF.out, HG.out, rfl, owns_down HO.out (by omega)⟩), HB1.out.trans (HW2.out.mono (by omega))⟩
  · have hab2 : (e0 != 0) = true := by simpa using ha
    go_wp2_with (go_at_call 31; refine CC.out.mono ?_; rintro _ w1 ⟨rfl, hw1⟩; have HB1 := hide (HB.out.trans (hw1.mono HB.out.size)); clear hw1)
    go_ret2
    refine ⟨.inl ⟨by rw [HE.out]; exact ha, ?_⟩, HB1.out⟩
    rw [HE.out]; rfl
end Go.Proofs.Ytdmnoeooljofcaa.Cz
