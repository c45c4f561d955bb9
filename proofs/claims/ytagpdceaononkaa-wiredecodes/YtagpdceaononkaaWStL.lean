/- The reader: steps, whole. -/
import Derived.Test.YtagpdceaononkaaWStR
import Derived.Test.YtagpdceaononkaaWMark
import Derived.Test.YtagpdceaononkaaWSumR
namespace Go.Proofs.Ytagpdceaononkaa
open Go.RowKit

theorem lst_more {zs : List Int} {k n : Nat} {acc : List StM} {q : Nat} (h : k < n) : lstM zs (n - k) acc q = stpM zs q >>= fun s => lstM zs (n - (k + 1)) (acc ++ [s.1]) s.2 := by rw [show n - k = (n - (k + 1)) + 1 by omega, lstM]
theorem stc_len {s : StM} {ca : Option Addr} {cc : Nat} : (stc s ca cc).length = 5 := rfl
theorem stc_one {s : StM} {ca : Option Addr} {cc : Nat} : ∀ u ∈ stc s ca cc, u.oneCell' = true := by intro u hu; simp [stc] at hu; rcases hu with rfl | rfl | rfl | rfl | rfl <;> rfl
set_option maxRecDepth 100000 in
set_option maxHeartbeats 12800000 in
theorem wsteps_any {R : Nat} {ba : Option Addr} {bc : Nat} {zs : List Int} {p : Nat} {w : World} (h : Rd R ba bc zs p w) :
    Calls Try.prog 40 #[ptr R] w fun e w' => Eo R ba bc zs w (fun w' l v => Gs w.heap.size l v w') (allM zs p) e w' := by
  obtain ⟨iS, hiS, zS0, zS1, zS2⟩ := info_parts' infoSt
  obtain ⟨o, ho⟩ : ∃ o, allM zs p = o := ⟨_, rfl⟩
  rw [ho]
  unfold allM at ho
  have HO := hide ho
  have hR := h.lt
  have HBy := hide h.bytes
  have CN := hide (number_any h (most := 65536) (by omega) (by omega))
  clear h ho
  go_enter Try.func40, Try.ntmps40
  go_wp2_with fail
  refine CN.out.mono ?_
  intro e w1 hE
  rcases hE.split with ⟨z, q0, v, e1, rfl, e2, e3, e4⟩ | ⟨c, p', e1, rfl, e4⟩
  rotate_left
  · exact on_panic rfl (Eo.no (bind_no HO.out e1) e4)
  rw [vZ] at e2
  subst e2
  obtain ⟨n0, n1⟩ := num_in HBy.out (by omega) e1
  obtain ⟨n, rfl⟩ := Int.eq_ofNat_of_zero_le n0
  have HO2 : Hid (lstM zs (n - 0) [] q0 = o) := hide (by have h5 := bind_ok HO.out e1; rw [Nat.sub_zero]; exact h5)
  have HD := hide e3
  have HF : Hid (Fr (fun k => k = R ∨ w.heap.size ≤ k) w w1) := hide (e4.mono fun _ _ e => .inl e)
  clear hE e1 e3 e4 HO CN n0
  go_wp2_with fail
  go_loopw [3, 6] (fun y x wr => ∃ (k : Nat) (acc : List StM) (a : Option Addr) (c q : Nat), k ≤ n ∧ x = .int .i64 k ∧ y = .slice a acc.length c ∧ Hid (acc.length = k) ∧ Hid (Gs w.heap.size acc (.slice a acc.length c) wr) ∧ Hid (Rd R ba bc zs q wr) ∧ Hid (Fr (fun k => k = R ∨ w.heap.size ≤ k) w wr) ∧ Hid (lstM zs (n - k) acc q = o)) (fun _ x _ => n - (intOf x).toNat)
  case atStart => exact ⟨0, [], none, 0, q0, by omega, rfl, rfl, rfl, hide Gs.nil, HD, HF, HO2⟩
  case round =>
    clear HD HF HO2
    obtain ⟨k, acc, a, c, q, hk, rfl, rfl, HAl, HG, HD, HF, HO⟩ := hrel
    by_cases hlt : k < n
    · have HO1 := hide ((lst_more hlt).symm.trans HO.out)
      have CN := hide (stp_any HD.out)
      clear HO
      go_wp2_with fail
      refine CN.out.mono ?_
      intro e w2 hE
      rcases hE.split with ⟨s, q2, v, e1, rfl, ⟨ca, cc, rfl, e2⟩, e3, e4⟩ | ⟨c, p', e1, rfl, e4⟩
      rotate_left
      · exact ⟨rfl, Eo.no (bind_no HO1.out e1) ((HF.out.trans (e4.mono fun _ _ e => .inl e)).mono fun k hk e => e.elim id fun h => absurd hk (by omega))⟩
      have HO2 : Hid (lstM zs (n - (k + 1)) (acc ++ [s]) q2 = o) := hide (by have h5 := bind_ok HO1.out e1; exact h5)
      obtain ⟨Z, xs, hrow, hz, hold⟩ := HG.out
      have hrow2 := owns_keep hrow fun g hg => e4.block g (owns_lt hrow hg) (by have := (hrow.lt g hg).1; omega)
      have hA := below_new w2 (.cells (stc s ca cc).toArray 52)
      have HRA := hide (owns_keep hrow2 fun g hg => hA.block g (owns_lt hrow2 hg))
      have HROW := hide hrow
      have HZ := hide hz
      have HOLD := hide hold
      have HE2 := hide e2
      have HE3 := hide e3
      have HE4 := hide e4
      have hal : acc.length ≤ 65536 := by rw [HAl.out]; omega
      have hww : w.heap.size ≤ wr.heap.size := HF.out.size
      have HXL : Hid (xs.length = acc.length * 5) := hide hrow.1
      have HNEW := hide (news_at (w := w2) (cs := stc s ca cc) (t := 52) rfl)
      clear hE e1 e2 e3 e4 HO1 CN hrow hrow2 hz hold hA HG
      unfold stv stc at *
      go_upto_region 5 with (at_builtin; go_must (refine wpList_append_two _ rfl _ _ 22 rfl w.heap.size 52 iS _ 5 56 Try.underlying22 hiS zS0 zS1 zS2 rfl (by decide) _ _ xs rfl HRA.out ⟨w2.heap.size, 0, none⟩ 1 [.int .i64 s.tag, .int .i64 s.lit, .int .i64 s.how, .int .i64 s.rule, .slice ca s.ch.length cc] rfl rfl HNEW.out (by intro u hu; simp at hu; rcases hu with rfl | rfl | rfl | rfl | rfl <;> rfl) (by unfold maxLen; omega) (by omega) (by have := HE4.out.size; simp; omega) ?_); intro g4 cap4 w4 hown4 hg4; have hg5 : (Value.ownBlock (.slice a acc.length c) = some g4 ∧ (w2.alloc (.cells [Value.int .i64 s.tag, .int .i64 s.lit, .int .i64 s.how, .int .i64 s.rule, .slice ca s.ch.length cc].toArray 52)).grownBy w4 (some g4)) ∨ (g4 = w2.heap.size + 1 ∧ (w2.alloc (.cells [Value.int .i64 s.tag, .int .i64 s.lit, .int .i64 s.how, .int .i64 s.rule, .slice ca s.ch.length cc].toArray 52)).grownBy w4 none) := (by rcases hg4 with h | ⟨h1, h2⟩; exact .inl h; exact .inr ⟨by simpa using h1, h2⟩); have HG5 := hide hg5; have HO4 := hide hown4; clear hown4 hg4 hg5)
      have HGn : Hid (Gs w.heap.size (acc ++ [s]) (.slice (some ⟨g4, 0, none⟩) (acc.length + 1) cap4) w4) := hide (Gs.grow hww HROW.out HZ.out HOLD.out (fun g hg hl => HE4.out.block g hl (by omega)) HE4.out.size HE2.out HO4.out HG5.out)
      have HF4 : Hid (Fr (fun k => k = R ∨ w.heap.size ≤ k) w w4) := hide ((HF.out.trans (HE4.out.mono fun _ _ e => .inl e)).trans (grown_fr rfl HG5.out fun g e => .inr (HROW.out.lt g e).1))
      have HD4 : Hid (Rd R ba bc zs q2 w4) := hide (HE3.out.keep fun g hg => grown_old rfl HG5.out (by have := HE4.out.size; omega) fun e => by have := (HROW.out.lt g e).1; omega)
      clear HG5 HO4 HE2 HE3 HE4 HROW HZ HOLD HRA HF HXL HNEW HD
      go_wp2_with fail
      go_roundw
      case rel => exact ⟨k + 1, acc ++ [s], some ⟨g4, 0, none⟩, cap4, q2, by omega, by go_num, by rw [List.length_append]; rfl, hide (by rw [List.length_append, HAl.out]; rfl), hide (by rw [List.length_append]; exact HGn.out), HD4, HF4, HO2⟩
      case measure => simp [intOf]; omega
    · have HN : Hid (o = .ok (acc, q)) := hide (by have := HO.out; rw [show n - k = 0 by omega] at this; exact this.symm)
      clear HO
      go_wp2_with fail
      go_ret
      exact Eo.yes HN.out HG.out HD.out (HF.out.mono fun k hk e => e.elim id fun h => absurd hk (by omega))
/-- How the whole ends. -/
def Wo (R : Nat) (zs : List Int) (w : World) (e : Ending) (w' : World) : Prop := Fr (fun k => k = R) w w' ∧ match wholeM zs with
  | .ok l => ∃ v, e = .returned v ∧ Gs w.heap.size l v w'
  | .error c => e = .panicked [flt c.1 c.2]
theorem Wo.yes {R : Nat} {zs : List Int} {w w' : World} {l : List StM} {v : Value} (h : wholeM zs = .ok l) (hf : Fr (fun k => k = R) w w') (hg : Gs w.heap.size l v w') : Wo R zs w (.returned v) w' := ⟨hf, by rw [h]; exact ⟨v, rfl, hg⟩⟩
theorem Wo.no {R : Nat} {zs : List Int} {w w' : World} {c p : Int} (h : wholeM zs = .error (c, p)) (hf : Fr (fun k => k = R) w w') : Wo R zs w (.panicked [flt c p]) w' := ⟨hf, by rw [h]⟩
set_option maxRecDepth 100000 in
set_option maxHeartbeats 12800000 in
theorem whole_any {R : Nat} {ba : Option Addr} {bc : Nat} {zs : List Int} {w : World} (h : Rd R ba bc zs 0 w) :
    Calls Try.prog 29 #[ptr R] w fun e w' => Wo R zs w e w' := by
  obtain ⟨o, ho⟩ : ∃ o, wholeM zs = o := ⟨_, rfl⟩
  have HO := hide ho
  unfold wholeM at ho
  have HO1 := hide ho
  have hR := h.lt
  have hlen := h.len
  have CM := hide (mark_any h)
  have CG := hide (fun c p X => giveUp_any (ptr R) c p X)
  clear h ho
  go_enter Try.func29, Try.ntmps29
  go_wp2_with fail
  refine CM.out.mono ?_
  rintro e w1 ⟨hf, hE⟩
  rcases hE with ⟨e1, rfl, e3⟩ | ⟨c, p', e1, rfl⟩
  rotate_left
  · exact on_panic rfl (Wo.no (HO.out.trans (bind_no HO1.out e1)) hf)
  have HO2 : Hid ((allM zs 4 >>= fun L => sumM zs L.2 >>= fun q => if q < zs.length then .error (9, (q : Int)) else .ok L.1) = o) := hide (by have h5 := bind_ok HO1.out e1; exact h5)
  have HF := hide hf
  have CS := hide (wsteps_any e3)
  clear e1 e3 hf CM HO1
  go_wp2_with fail
  refine CS.out.mono ?_
  intro e w2 hE
  rcases hE.split with ⟨l, q, v, e1, rfl, e2, e3, e4⟩ | ⟨c, p', e1, rfl, e4⟩
  rotate_left
  · exact on_panic rfl (Wo.no (HO.out.trans (bind_no HO2.out e1)) (HF.out.trans e4))
  have HO3 : Hid ((sumM zs q >>= fun q => if q < zs.length then .error (9, (q : Int)) else .ok l) = o) := hide (by have h5 := bind_ok HO2.out e1; exact h5)
  have HF2 := hide (HF.out.trans e4)
  have HG := hide (Gs.down e2 HF.out.size)
  have CU := hide (wsum_any e3)
  obtain ⟨a, c, rfl⟩ := Gs.form e2
  clear hE e1 e2 e3 e4 HF CS HO2
  go_wp2_with fail
  refine CU.out.mono ?_
  rintro e w3 ⟨hf, hE⟩
  rcases hE with ⟨q3, e1, rfl, e3⟩ | ⟨c, p', e1, rfl⟩
  rotate_left
  · exact on_panic rfl (Wo.no (HO.out.trans (bind_no HO3.out e1)) (HF2.out.trans hf))
  have HO4 : Hid ((if q3 < zs.length then .error (9, (q3 : Int)) else .ok l) = o) := hide (by have h5 := bind_ok HO3.out e1; exact h5)
  have HF3 := hide (HF2.out.trans hf)
  have HG3 := hide (HG.out.keep (fun g hg hl => hf.block g hl (by omega)) hf.size)
  have c0 := e3.c0
  have c1 := e3.c1
  have HD := hide e3
  clear hf e1 e3 CU HO3 HF2 HG
  by_cases hq : q3 < zs.length
  · have HE := hide ((if_pos hq).symm.trans HO4.out)
    clear HO4
    go_wp2_with fail
    go_quiet (fail)
    go_wp2_with (go_at_call 42; refine (CG.out _ _ _).mono ?_; rintro _ w9 ⟨rfl, hw⟩; subst w9)
    exact on_panic rfl (Wo.no (HO.out.trans HE.out.symm) (HF3.out.trans (Fr.of_below (below_drewN w3 _))))
  · have HE := hide ((if_neg hq).symm.trans HO4.out)
    clear HO4 CG
    go_wp2_with fail
    go_quiet (fail)
    go_wp2_with fail
    go_ret
    exact Wo.yes (HO.out.trans HE.out.symm) (HF3.out.trans (Fr.of_below (below_drewN w3 _))) (HG3.out.keep (fun g _ hl => (below_drewN w3 _).block g hl) (below_drewN w3 _).size)
end Go.Proofs.Ytagpdceaononkaa
