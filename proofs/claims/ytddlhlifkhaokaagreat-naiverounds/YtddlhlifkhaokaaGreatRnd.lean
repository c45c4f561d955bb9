/- Round; marks compared, copied. -/
import Derived.Test.YtddlhlifkhaokaaGreatAlv
namespace Go.Proofs.YtddlhlifkhaokaaGreat
open Go.RowKit

def mfM (T : Th) (F m : List Int) : Int := if faultM T F ≠ 0 then faultM T F else if (m.length : Int) ≠ T.lits then 3 else 0
section
variable {w : World} {T : Th} {F m : List Int} {fa ra ba ea ma : Option Addr} {fc rc bc ec mc : Nat}
set_option maxRecDepth 100000 in
set_option maxHeartbeats 6400000 in
theorem marksFault_any (h : TA w.heap.size w T fa fc ra rc ba bc) (hF : Ints w.heap.size w F (.slice ea F.length ec)) :
    Calls Tryz.prog 20 #[tv T fa fc ra rc ba bc, .slice ea F.length ec, .slice ma m.length mc] w fun e w' => e = .returned (.int .i64 (mfM T F m)) ∧ Below w.heap.size w w' := by
  have hB := below_new w (.cells #[.int .i64 T.lits, .slice fa T.foes.length fc, .slice ra T.rules.length rc, .slice ba T.beats.length bc] 25)
  have hX := heap_alloc_new w (.cells #[.int .i64 T.lits, .slice fa T.foes.length fc, .slice ra T.rules.length rc, .slice ba T.beats.length bc] 25)
  have CF := hide (fault_any (TR.go hB h) (Ints.go hB hF))
  have HB := hide hB
  have HX := hide hX
  clear h hB hF
  go_enter Tryz.func20, Tryz.ntmps20
  go_upto_region 1 with fail
  generalize w.alloc (.cells #[.int .i64 T.lits, .slice fa T.foes.length fc, .slice ra T.rules.length rc, .slice ba T.beats.length bc] 25) = W at *
  obtain ⟨-, c0, c1, c2, c3⟩ := Bt.of hX
  clear hX
  by_cases hf : faultM T F = 0
  · rw [hf] at CF
    go_upto_region 4 with (go_at_call 26; refine CF.out.mono ?_; rintro _ w1 ⟨rfl, hw1⟩; have HB1 := hide (HB.out.trans (hw1.mono HB.out.size)); have HX1 := hide ((hw1.block _ (loc_lt HX.out)).trans HX.out); clear hw1)
    clear c0 c1 c2 c3 CF HX HB
    obtain ⟨-, c0, c1, c2, c3⟩ := Bt.of HX1.out
    by_cases hl : (m.length : Int) = T.lits
    · have HR : Hid (mfM T F m = 0) := hide (by unfold mfM; rw [if_neg (by rw [hf]; decide), if_neg (by rw [hl]; exact fun x => x rfl)])
      have hl2 : ((m.length : Int) != T.lits) = false := by simpa using hl
      clear hf
      go_wp2_with fail
      go_ret
      exact ⟨by rw [HR.out]; rfl, HB1.out⟩
    · have HR : Hid (mfM T F m = 3) := hide (by unfold mfM; rw [if_neg (by rw [hf]; decide), if_pos hl])
      have hl2 : ((m.length : Int) != T.lits) = true := by simpa using hl
      clear hf hl
      go_wp2_with fail
      go_ret
      exact ⟨by rw [HR.out]; rfl, HB1.out⟩
  · have HR : Hid (mfM T F m = faultM T F) := hide (by unfold mfM; rw [if_pos hf])
    have hne : (faultM T F != 0) = true := by simpa using hf
    clear hf
    generalize faultM T F = e0 at *
    go_wp2_with (go_at_call 26; refine CF.out.mono ?_; rintro _ w1 ⟨rfl, hw1⟩; have HB1 := hide (HB.out.trans (hw1.mono HB.out.size)); clear hw1)
    go_ret
    exact ⟨by rw [HR.out]; rfl, HB1.out⟩
/-- What a call that tells marks ends with. -/
def Told (w : World) (e : Ending) (l : List Int) (c : Int) (w' : World) : Prop := ∃ v, e = .returned (.tuple #[v, .int .i64 c]) ∧ w'.ownsRow w.heap.size 50 1 v l.length (u8s l) ∧ Below w.heap.size w w'
set_option maxRecDepth 100000 in
set_option maxHeartbeats 6400000 in
theorem Round_any (h : TA w.heap.size w T fa fc ra rc ba bc) (hF : Ints w.heap.size w F (.slice ea F.length ec)) (hm : At1 w ma (u8s m)) :
    Calls Tryz.prog 7 #[tv T fa fc ra rc ba bc, .slice ea F.length ec, .slice ma m.length mc] w fun e w' => Told w e (if mfM T F m = 0 then roundM T F m else []) (mfM T F m) w' := by
  have hB := below_new w (.cells #[.int .i64 T.lits, .slice fa T.foes.length fc, .slice ra T.rules.length rc, .slice ba T.beats.length bc] 25)
  have hX := heap_alloc_new w (.cells #[.int .i64 T.lits, .slice fa T.foes.length fc, .slice ra T.rules.length rc, .slice ba T.beats.length bc] 25)
  have CF := hide (marksFault_any (m := m) (ma := ma) (mc := mc) (TR.go hB h) (Ints.go hB hF))
  have HTA := hide (TR.go hB h)
  have HF := hide (Ints.go hB hF)
  have HM := hide (hm.below hB)
  have HB := hide hB
  have HX := hide hX
  clear h hB hF hm
  by_cases hf : mfM T F m = 0
  · rw [hf, if_pos rfl]
    rw [hf] at CF
    have hf0 : faultM T F = 0 := by
      apply Classical.byContradiction
      intro hn
      unfold mfM at hf
      rw [if_pos hn] at hf
      exact hn hf
    have hml : m.length = T.lits.toNat := by
      unfold mfM at hf
      rw [if_neg (by rw [hf0]; decide)] at hf
      by_cases e : (m.length : Int) ≠ T.lits
      · rw [if_pos e] at hf; cases hf
      · have := Classical.not_not.1 e
        omega
    have HP := hide (pf_of hf0)
    obtain ⟨n, hn⟩ : ∃ n, T.lits.toNat = n := ⟨_, rfl⟩
    rw [hn] at HP hml
    clear hf hf0 hn
    have HRL : Hid ((roundM T F m).length = n) := hide (by rw [round_len]; exact hml)
    have HML := hide hml
    rw [hml] at CF ⊢
    go_enter Tryz.func7, Tryz.ntmps7
    go_upto_region 1 with fail
    generalize w.alloc (.cells #[.int .i64 T.lits, .slice fa T.foes.length fc, .slice ra T.rules.length rc, .slice ba T.beats.length bc] 25) = W at *
    obtain ⟨-, c0, c1, c2, c3⟩ := Bt.of hX
    clear hX
    go_upto_region 4 with (go_at_call 20; refine CF.out.mono ?_; rintro _ w1 ⟨rfl, hw1⟩; have HW1 := hide hw1; clear hw1)
    have HX1 := hide ((HW1.out.block _ (loc_lt HX.out)).trans HX.out)
    have HTA1 := hide (TR.go HW1.out HTA.out)
    have CN := hide (newKnown_any (ma := ma) (mc := mc) HTA1.out (Ints.go HW1.out HF.out) HP.out)
    have HM1 := hide (HM.out.below HW1.out)
    have HB1 := hide (HB.out.trans (HW1.out.mono HB.out.size))
    clear c0 c1 c2 c3 CF HX HTA HF HB HW1 HM hml
    obtain ⟨-, c0, c1, c2, c3⟩ := Bt.of HX1.out
    go_wp2_with (first | (go_at_call 21; refine CN.out.mono ?_; rintro _ w2 ⟨K, A, rfl, hkq, hta, -, hb2⟩; have CR := hide (round_any (hkq.kn HP.out (hta w2 hb2) HML.out (HM1.out.below hb2))); have HB2 := hide hb2; clear hkq hta hb2) | (go_at_call 22; refine CR.out.mono ?_; rintro _ w3 ⟨v, rfl, hown, hb3⟩; have HV := hide hown; have HB3 := hide hb3; clear hown hb3))
    go_ret2
    refine ⟨v, rfl, ?_, HB1.out.trans ((HB2.out.trans (HB3.out.mono HB2.out.size)).mono HB1.out.size)⟩
    rw [HRL.out]
    exact owns_down HV.out (Nat.le_trans HB1.out.size HB2.out.size)
  · rw [if_neg hf]
    have hne : (mfM T F m != 0) = true := by simpa using hf
    clear hf HTA HF HM
    generalize mfM T F m = e0 at *
    go_enter Tryz.func7, Tryz.ntmps7
    go_upto_region 1 with fail
    generalize w.alloc (.cells #[.int .i64 T.lits, .slice fa T.foes.length fc, .slice ra T.rules.length rc, .slice ba T.beats.length bc] 25) = W at *
    obtain ⟨-, c0, c1, c2, c3⟩ := Bt.of hX
    clear hX
    go_wp2_with (go_at_call 20; refine CF.out.mono ?_; rintro _ w1 ⟨rfl, hw1⟩; have HB1 := hide (HB.out.trans (hw1.mono HB.out.size)); clear hw1)
    go_ret2
    exact ⟨_, rfl, World.ownsRow_nil _ _ _ _, HB1.out⟩
end
set_option maxRecDepth 100000 in
set_option maxHeartbeats 6400000 in
theorem sameM_yes {l : List Int} {a b : Option Addr} {c d : Nat} {w : World} (ha : At1 w a (u8s l)) (hb : At1 w b (u8s l)) (hl : l.length ≤ 140737488351232) :
    Calls Tryz.prog 13 #[.slice a l.length c, .slice b l.length d] w fun e w' => e = .returned (.bool true) ∧ Below w.heap.size w w' := by
  have HA := hide ha
  have HB := hide hb
  clear ha hb
  go_enter Tryz.func13, Tryz.ntmps13
  go_wp2_with fail
  go_loopw [5] (fun x wr => ∃ k q : Nat, k ≤ l.length ∧ x = .int .i64 k ∧ wr = w.drewN q) (fun x _ => l.length - (intOf x).toNat)
  case atStart => exact ⟨0, 0, by omega, rfl, rfl⟩
  case round =>
    obtain ⟨k, q, hk, rfl, rfl⟩ := hrel
    by_cases hlt : k < l.length
    · obtain ⟨ga, oa, rfl, a0⟩ := HA.out k _ (u8s_at hlt)
      obtain ⟨gb, ob, rfl, b0⟩ := HB.out k _ (u8s_at hlt)
      generalize l.getD k 0 = x at *
      go_wp2_with fail
      go_quiet (fail)
      go_wp2_with fail
      go_roundw
      case rel => exact ⟨k + 1, _, by omega, by go_num, rfl⟩
      case measure => simp [intOf]; omega
    · go_wp2_with fail
      go_ret
      exact ⟨rfl, below_drewN w q⟩
theorem cell_one8 (w : World) (x : Int) : ∀ j u, [Value.int .u8 x][j]? = some u → (w.alloc (.cells #[.int .u8 x] 50)).cell? ((⟨w.heap.size, 0, none⟩ : Addr).add j) = some u := news_at rfl
theorem u8s_snoc {l : List Int} {x : Int} : u8s (l ++ [x]) = u8s l ++ [.int .u8 x] := by unfold u8s; simp
set_option maxRecDepth 100000 in
set_option maxHeartbeats 6400000 in
theorem copyM_any {l : List Int} {a : Option Addr} {c : Nat} {w : World} (ha : At1 w a (u8s l)) (hl : l.length ≤ 140737488351232) :
    Calls Tryz.prog 6 #[.slice a l.length c] w fun e w' => ∃ v, e = .returned v ∧ w'.ownsRow w.heap.size 50 1 v l.length (u8s l) ∧ Below w.heap.size w w' := by
  obtain ⟨iI, hiI, zI0, zI1, zI2⟩ := info_parts infoM8
  have HA := hide ha
  clear ha
  go_enter Tryz.func6, Tryz.ntmps6
  go_wp2_with fail
  go_loopw [3, 4] (fun y x wr => ∃ (k : Nat) (va : Option Addr) (vc : Nat), k ≤ l.length ∧ x = .int .i64 k ∧ y = .slice va k vc ∧ Hid (wr.ownsRow w.heap.size 50 1 (.slice va k vc) k (u8s (l.take k))) ∧ Hid (Below w.heap.size w wr)) (fun _ x _ => l.length - (intOf x).toNat)
  case atStart => exact ⟨0, none, 0, by omega, rfl, rfl, hide (World.ownsRow_nil _ _ _ _), hide (Below.refl _ _)⟩
  case round =>
    obtain ⟨k, va, vc, hk, rfl, rfl, HRow, HB⟩ := hrel
    by_cases hlt : k < l.length
    · obtain ⟨x, hx⟩ := get_at hlt
      obtain ⟨g, o, rfl, cx⟩ := (HA.out.below HB.out) k (.int .u8 x) (by unfold u8s; rw [List.getElem?_map, hx]; rfl)
      have hA := below_new wr (.cells #[.int .u8 x] 50)
      have HROW := hide (owns_keep HRow.out fun g hg => hA.block g (owns_lt HRow.out hg))
      have HT : Hid (u8s (l.take k) ++ [.int .u8 x] = u8s (l.take (k + 1))) := hide (by rw [take_snoc hx, u8s_snoc])
      have hw2 : w.heap.size ≤ wr.heap.size := HB.out.size
      have HHI : Hid (∀ g, Value.ownBlock (.slice va k vc) = some g → w.heap.size ≤ g) := hide fun g e => (HRow.out.lt g e).1
      have HA2 := hide hA
      clear hx hA
      go_wp2_with (at_builtin; go_must (refine wpList_append_two _ rfl _ _ 27 rfl w.heap.size 50 iI _ 1 1 Tryz.underlying27 hiI zI0 zI1 zI2 rfl (by decide) _ _ (u8s (l.take k)) rfl HROW.out ⟨wr.heap.size, 0, none⟩ 1 [.int .u8 x] rfl rfl (cell_one8 _ _) (by intro u hu; simp at hu; subst hu; rfl) (by unfold maxLen; omega) (by omega) (by simp; omega) ?_); intro g4 cap4 w4 hown4 hg4; rw [HT.out] at hown4; have HO4 := hide hown4; have HB4 : Hid (Below w.heap.size w w4) := (hide (HB.out.trans ((HA2.out.mono HB.out.size).trans (by rcases hg4 with ⟨h1, h2⟩ | ⟨h1, h2⟩; exact (Fr.of_grown (Z := fun k => w.heap.size ≤ k) h2 (fun k e => by cases e; exact HHI.out _ h1)).below fun k hk => ⟨by simp; omega, by omega⟩; exact (Fr.of_grown (Z := fun k => w.heap.size ≤ k) h2 (fun k e => by cases e)).below fun k hk => ⟨by simp; omega, by omega⟩)))); clear hown4 hg4)
      go_roundw
      case rel => exact ⟨k + 1, some ⟨g4, 0, none⟩, cap4, by omega, by go_num, rfl, HO4, HB4⟩
      case measure => simp [intOf]; omega
    · have HE : Hid (k = l.length) := hide (by omega)
      go_wp2_with fail
      go_ret
      have h1 := HRow.out
      rw [HE.out, List.take_length] at h1
      exact ⟨_, by rw [HE.out]; rfl, h1, HB.out⟩
end Go.Proofs.YtddlhlifkhaokaaGreat
