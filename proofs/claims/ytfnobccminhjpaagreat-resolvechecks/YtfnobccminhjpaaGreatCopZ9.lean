/- Copies: lists of plain things, a term, a literal's text. By program (tools/gen8/copz9.py). -/
import Derived.Test.YtfnobccminhjpaaGreatBx9
namespace Go.Proofs.YtfnobccminhjpaaGreat
open Go.RowKit Go.Shelf Go.Maps Go.WideMaps
def cSZ (_ : Nat → Prop) := cS
def cIZ (_ : Nat → Prop) := cI
def cMZ (_ : Nat → Prop) := cM
def cSrcZ (_ : Nat → Prop) := cSrc
theorem infzS : (Tryz.prog.info? 9).map (fun i => (i.zero, i.size, i.bytes)) = some (some (.string ⟨#[]⟩), 1, 16) := by kernel_rfl
set_option maxRecDepth 100000 in
set_option maxHeartbeats 3200000 in
theorem copyS_z {w : World} {a : Option Addr} {l : List (Bytes)} {c : Nat} (h : RR w.heap.size 1 cS w l (.slice a l.length c)) (hl : Szs 16 (fun _ => True) l) :
    Calls Tryz.prog 41 #[.slice a l.length c] w fun e w' => ∃ xa xc, e = .returned (.slice xa l.length xc) ∧ RZ (Nw w w') 1 (cSZ (Nw w w')) w' l (.slice xa l.length xc) ∧ Below w.heap.size w w' := by
  obtain ⟨iM, hiM, zM0, zM1, zM2⟩ := info_parts' infzS
  have HM := hide h
  have HL := hide hl
  have hb9 := hl.1
  have O1 : Hid (Gz 9 1 cSZ w (l.take 0) 0 (.slice none 0 0) w) := hide Gz.nil
  clear h hl
  go_enter Tryz.func41, Tryz.ntmps41
  go_wp2_with fail
  go_loopw [3, 4] (fun mv x wr => ∃ (i : Nat) (a0 : Option Addr) (c0 : Nat), i ≤ l.length ∧ x = .int .i64 i ∧ mv = .slice a0 i c0 ∧ Hid (Gz 9 1 cSZ w (l.take i) i (.slice a0 i c0) wr)) (fun _ x _ => l.length - (intOf x).toNat)
  case atStart => exact ⟨0, none, 0, by omega, rfl, rfl, O1⟩
  case round =>
    clear O1
    obtain ⟨i, a0, c0, hi, rfl, rfl, HO⟩ := hrel
    by_cases hlt : i < l.length
    · obtain ⟨x, hx⟩ : ∃ x, l[i]? = some x := ⟨l[i], List.getElem?_eq_getElem hlt⟩
      have HT := hide (take_snoc hx)
      have HSZ := hide (Szs.at HL.out hx)
      obtain ⟨g, o, ys, rfl, hg, hk, hcell, hcx⟩ := RR.open (RR.go (c' := cS) HO.out.low HM.out (fun _ _ h => h)) hx
      have HC := hide hcx
      obtain ⟨rfl, m0⟩ := hcx
      clear hk hx
      have d0 : wr.cell? ⟨g, o + i, none⟩ = some (str x) := by have := hcell 0 _ rfl; simpa using this
      clear hcell
      unfold str at *
      obtain ⟨Z, xs, hrow, hz, hold⟩ := HO.out.body
      have HROW := hide hrow
      have HZ := hide hz
      have HOLD := hide hold
      have HL1 : w.heap.size ≤ wr.heap.size := HO.out.low.size
      have hgw : g < wr.heap.size := by omega
      clear hrow hz hold
      go_wp2_with (at_builtin; go_must (refine wpList_append_two _ rfl _ _ 22 rfl w.heap.size 9 iM _ 1 16 Tryz.underlying22 hiM zM0 zM1 zM2 rfl (by decide) _ _ _ rfl (HROW.out.alloc _) ⟨wr.heap.size, 0, none⟩ 1 [.string ⟨x.toArray⟩] rfl rfl (news_at rfl) (by simp [Value.oneCell']) (by unfold maxLen; omega) (by omega) (by simp; omega) ?_); intro g4 cap4 w4 hown4 hg4)
      have hz : (wr.alloc (.cells #[.string ⟨x.toArray⟩] 9)).heap.size = wr.heap.size + 1 := by simp
      rw [hz] at hg4
      refine ⟨⟨i + 1, some ⟨g4, 0, none⟩, cap4, by omega, by go_num, rfl, hide ?_⟩, by simp [intOf]; omega⟩
      rw [HT.out]
      exact Gz.grow (fun _ _ _ _ _ _ _ h => h) HO.out.low HO.out.len HROW.out HZ.out HOLD.out (Below.refl _ _) HC.out rfl hown4 hg4
    · have hk' : i = l.length := by omega
      subst hk'
      have HE := hide (List.take_of_length_le (Nat.le_refl l.length))
      rw [HE.out] at HO
      go_wp2_with fail
      go_ret
      exact ⟨_, _, rfl, Gz.done (fun _ _ _ _ _ _ _ h => h) HO.out HM.out.lim, HO.out.low⟩
theorem infzV : (Tryz.prog.info? 57).map (fun i => (i.zero, i.size, i.bytes)) = some (some (.int .i64 0), 1, 8) := by kernel_rfl
set_option maxRecDepth 100000 in
set_option maxHeartbeats 3200000 in
theorem copyV_z {w : World} {a : Option Addr} {l : List (Int)} {c : Nat} (h : RR w.heap.size 1 cI w l (.slice a l.length c)) (hl : Szs 8 (fun _ => True) l) :
    Calls Tryz.prog 133 #[.slice a l.length c] w fun e w' => ∃ xa xc, e = .returned (.slice xa l.length xc) ∧ RZ (Nw w w') 1 (cIZ (Nw w w')) w' l (.slice xa l.length xc) ∧ Below w.heap.size w w' := by
  obtain ⟨iM, hiM, zM0, zM1, zM2⟩ := info_parts' infzV
  have HM := hide h
  have HL := hide hl
  have hb9 := hl.1
  have O1 : Hid (Gz 57 1 cIZ w (l.take 0) 0 (.slice none 0 0) w) := hide Gz.nil
  clear h hl
  go_enter Tryz.func133, Tryz.ntmps133
  go_wp2_with fail
  go_loopw [3, 4] (fun mv x wr => ∃ (i : Nat) (a0 : Option Addr) (c0 : Nat), i ≤ l.length ∧ x = .int .i64 i ∧ mv = .slice a0 i c0 ∧ Hid (Gz 57 1 cIZ w (l.take i) i (.slice a0 i c0) wr)) (fun _ x _ => l.length - (intOf x).toNat)
  case atStart => exact ⟨0, none, 0, by omega, rfl, rfl, O1⟩
  case round =>
    clear O1
    obtain ⟨i, a0, c0, hi, rfl, rfl, HO⟩ := hrel
    by_cases hlt : i < l.length
    · obtain ⟨x, hx⟩ : ∃ x, l[i]? = some x := ⟨l[i], List.getElem?_eq_getElem hlt⟩
      have HT := hide (take_snoc hx)
      have HSZ := hide (Szs.at HL.out hx)
      obtain ⟨g, o, ys, rfl, hg, hk, hcell, hcx⟩ := RR.open (RR.go (c' := cI) HO.out.low HM.out (fun _ _ h => h)) hx
      have HC := hide hcx
      obtain rfl := hcx
      clear hk hx
      have d0 : wr.cell? ⟨g, o + i, none⟩ = some (.int .i64 x) := by have := hcell 0 _ rfl; simpa using this
      clear hcell
      unfold str at *
      obtain ⟨Z, xs, hrow, hz, hold⟩ := HO.out.body
      have HROW := hide hrow
      have HZ := hide hz
      have HOLD := hide hold
      have HL1 : w.heap.size ≤ wr.heap.size := HO.out.low.size
      have hgw : g < wr.heap.size := by omega
      clear hrow hz hold
      go_wp2_with (at_builtin; go_must (refine wpList_append_two _ rfl _ _ 130 rfl w.heap.size 57 iM _ 1 8 Tryz.underlying130 hiM zM0 zM1 zM2 rfl (by decide) _ _ _ rfl (HROW.out.alloc _) ⟨wr.heap.size, 0, none⟩ 1 [.int .i64 x] rfl rfl (news_at rfl) (by simp [Value.oneCell']) (by unfold maxLen; omega) (by omega) (by simp; omega) ?_); intro g4 cap4 w4 hown4 hg4)
      have hz : (wr.alloc (.cells #[.int .i64 x] 57)).heap.size = wr.heap.size + 1 := by simp
      rw [hz] at hg4
      refine ⟨⟨i + 1, some ⟨g4, 0, none⟩, cap4, by omega, by go_num, rfl, hide ?_⟩, by simp [intOf]; omega⟩
      rw [HT.out]
      exact Gz.grow (fun _ _ _ _ _ _ _ h => h) HO.out.low HO.out.len HROW.out HZ.out HOLD.out (Below.refl _ _) HC.out rfl hown4 hg4
    · have hk' : i = l.length := by omega
      subst hk'
      have HE := hide (List.take_of_length_le (Nat.le_refl l.length))
      rw [HE.out] at HO
      go_wp2_with fail
      go_ret
      exact ⟨_, _, rfl, Gz.done (fun _ _ _ _ _ _ _ h => h) HO.out HM.out.lim, HO.out.low⟩
theorem infzM : (Tryz.prog.info? 73).map (fun i => (i.zero, i.size, i.bytes)) = some (some (.agg #[.string ⟨#[]⟩, .string ⟨#[]⟩]), 2, 32) := by kernel_rfl
set_option maxRecDepth 100000 in
set_option maxHeartbeats 3200000 in
theorem copyM_z {w : World} {a : Option Addr} {l : List (Bytes × Bytes)} {c : Nat} (h : RR w.heap.size 2 cM w l (.slice a l.length c)) (hl : Szs 32 (fun _ => True) l) :
    Calls Tryz.prog 42 #[.slice a l.length c] w fun e w' => ∃ xa xc, e = .returned (.slice xa l.length xc) ∧ RZ (Nw w w') 2 (cMZ (Nw w w')) w' l (.slice xa l.length xc) ∧ Below w.heap.size w w' := by
  obtain ⟨iM, hiM, zM0, zM1, zM2⟩ := info_parts' infzM
  have HM := hide h
  have HL := hide hl
  have hb9 := hl.1
  have O1 : Hid (Gz 73 2 cMZ w (l.take 0) 0 (.slice none 0 0) w) := hide Gz.nil
  clear h hl
  go_enter Tryz.func42, Tryz.ntmps42
  go_wp2_with fail
  go_loopw [3, 4] (fun mv x wr => ∃ (i : Nat) (a0 : Option Addr) (c0 : Nat), i ≤ l.length ∧ x = .int .i64 i ∧ mv = .slice a0 i c0 ∧ Hid (Gz 73 2 cMZ w (l.take i) i (.slice a0 i c0) wr)) (fun _ x _ => l.length - (intOf x).toNat)
  case atStart => exact ⟨0, none, 0, by omega, rfl, rfl, O1⟩
  case round =>
    clear O1
    obtain ⟨i, a0, c0, hi, rfl, rfl, HO⟩ := hrel
    by_cases hlt : i < l.length
    · obtain ⟨x, hx⟩ : ∃ x, l[i]? = some x := ⟨l[i], List.getElem?_eq_getElem hlt⟩
      have HT := hide (take_snoc hx)
      have HSZ := hide (Szs.at HL.out hx)
      obtain ⟨g, o, ys, rfl, hg, hk, hcell, hcx⟩ := RR.open (RR.go (c' := cM) HO.out.low HM.out (fun _ _ h => h)) hx
      have HC := hide hcx
      obtain ⟨rfl, m0, m1⟩ := hcx
      clear hk hx
      have d0 : wr.cell? ⟨g, o + i * 2, none⟩ = some (.string ⟨x.1.toArray⟩) := hcell 0 _ rfl
      have d1 : wr.cell? ⟨g, o + i * 2 + 1, none⟩ = some (.string ⟨x.2.toArray⟩) := hcell 1 _ rfl
      clear hcell
      unfold str at *
      obtain ⟨Z, xs, hrow, hz, hold⟩ := HO.out.body
      have HROW := hide hrow
      have HZ := hide hz
      have HOLD := hide hold
      have HL1 : w.heap.size ≤ wr.heap.size := HO.out.low.size
      have hgw : g < wr.heap.size := by omega
      clear hrow hz hold
      go_wp2_with (at_builtin; go_must (refine wpList_append_two _ rfl _ _ 23 rfl w.heap.size 73 iM _ 2 32 Tryz.underlying23 hiM zM0 zM1 zM2 rfl (by decide) _ _ _ rfl (HROW.out.alloc _) ⟨wr.heap.size, 0, none⟩ 1 [.string ⟨x.1.toArray⟩, .string ⟨x.2.toArray⟩] rfl rfl (news_at rfl) (by simp [Value.oneCell']) (by unfold maxLen; omega) (by omega) (by simp; omega) ?_); intro g4 cap4 w4 hown4 hg4)
      have hz : (wr.alloc (.cells #[.string ⟨x.1.toArray⟩, .string ⟨x.2.toArray⟩] 73)).heap.size = wr.heap.size + 1 := by simp
      rw [hz] at hg4
      refine ⟨⟨i + 1, some ⟨g4, 0, none⟩, cap4, by omega, by go_num, rfl, hide ?_⟩, by simp [intOf]; omega⟩
      rw [HT.out]
      exact Gz.grow (fun _ _ _ _ _ _ _ h => h) HO.out.low HO.out.len HROW.out HZ.out HOLD.out (Below.refl _ _) HC.out rfl hown4 hg4
    · have hk' : i = l.length := by omega
      subst hk'
      have HE := hide (List.take_of_length_le (Nat.le_refl l.length))
      rw [HE.out] at HO
      go_wp2_with fail
      go_ret
      exact ⟨_, _, rfl, Gz.done (fun _ _ _ _ _ _ _ h => h) HO.out HM.out.lim, HO.out.low⟩
theorem infzE : (Tryz.prog.info? 160).map (fun i => (i.zero, i.size, i.bytes)) = some (some (.agg #[.string ⟨#[]⟩, .string ⟨#[]⟩]), 2, 32) := by kernel_rfl
set_option maxRecDepth 100000 in
set_option maxHeartbeats 3200000 in
theorem copyE_z {w : World} {a : Option Addr} {l : List (Bytes × Bytes)} {c : Nat} (h : RR w.heap.size 2 cM w l (.slice a l.length c)) (hl : Szs 32 (fun _ => True) l) :
    Calls Tryz.prog 47 #[.slice a l.length c] w fun e w' => ∃ xa xc, e = .returned (.slice xa l.length xc) ∧ RZ (Nw w w') 2 (cMZ (Nw w w')) w' l (.slice xa l.length xc) ∧ Below w.heap.size w w' := by
  obtain ⟨iM, hiM, zM0, zM1, zM2⟩ := info_parts' infzE
  have HM := hide h
  have HL := hide hl
  have hb9 := hl.1
  have O1 : Hid (Gz 160 2 cMZ w (l.take 0) 0 (.slice none 0 0) w) := hide Gz.nil
  clear h hl
  go_enter Tryz.func47, Tryz.ntmps47
  go_wp2_with fail
  go_loopw [3, 4] (fun mv x wr => ∃ (i : Nat) (a0 : Option Addr) (c0 : Nat), i ≤ l.length ∧ x = .int .i64 i ∧ mv = .slice a0 i c0 ∧ Hid (Gz 160 2 cMZ w (l.take i) i (.slice a0 i c0) wr)) (fun _ x _ => l.length - (intOf x).toNat)
  case atStart => exact ⟨0, none, 0, by omega, rfl, rfl, O1⟩
  case round =>
    clear O1
    obtain ⟨i, a0, c0, hi, rfl, rfl, HO⟩ := hrel
    by_cases hlt : i < l.length
    · obtain ⟨x, hx⟩ : ∃ x, l[i]? = some x := ⟨l[i], List.getElem?_eq_getElem hlt⟩
      have HT := hide (take_snoc hx)
      have HSZ := hide (Szs.at HL.out hx)
      obtain ⟨g, o, ys, rfl, hg, hk, hcell, hcx⟩ := RR.open (RR.go (c' := cM) HO.out.low HM.out (fun _ _ h => h)) hx
      have HC := hide hcx
      obtain ⟨rfl, m0, m1⟩ := hcx
      clear hk hx
      have d0 : wr.cell? ⟨g, o + i * 2, none⟩ = some (.string ⟨x.1.toArray⟩) := hcell 0 _ rfl
      have d1 : wr.cell? ⟨g, o + i * 2 + 1, none⟩ = some (.string ⟨x.2.toArray⟩) := hcell 1 _ rfl
      clear hcell
      unfold str at *
      obtain ⟨Z, xs, hrow, hz, hold⟩ := HO.out.body
      have HROW := hide hrow
      have HZ := hide hz
      have HOLD := hide hold
      have HL1 : w.heap.size ≤ wr.heap.size := HO.out.low.size
      have hgw : g < wr.heap.size := by omega
      clear hrow hz hold
      go_wp2_with (at_builtin; go_must (refine wpList_append_two _ rfl _ _ 28 rfl w.heap.size 160 iM _ 2 32 Tryz.underlying28 hiM zM0 zM1 zM2 rfl (by decide) _ _ _ rfl (HROW.out.alloc _) ⟨wr.heap.size, 0, none⟩ 1 [.string ⟨x.1.toArray⟩, .string ⟨x.2.toArray⟩] rfl rfl (news_at rfl) (by simp [Value.oneCell']) (by unfold maxLen; omega) (by omega) (by simp; omega) ?_); intro g4 cap4 w4 hown4 hg4)
      have hz : (wr.alloc (.cells #[.string ⟨x.1.toArray⟩, .string ⟨x.2.toArray⟩] 160)).heap.size = wr.heap.size + 1 := by simp
      rw [hz] at hg4
      refine ⟨⟨i + 1, some ⟨g4, 0, none⟩, cap4, by omega, by go_num, rfl, hide ?_⟩, by simp [intOf]; omega⟩
      rw [HT.out]
      exact Gz.grow (fun _ _ _ _ _ _ _ h => h) HO.out.low HO.out.len HROW.out HZ.out HOLD.out (Below.refl _ _) HC.out rfl hown4 hg4
    · have hk' : i = l.length := by omega
      subst hk'
      have HE := hide (List.take_of_length_le (Nat.le_refl l.length))
      rw [HE.out] at HO
      go_wp2_with fail
      go_ret
      exact ⟨_, _, rfl, Gz.done (fun _ _ _ _ _ _ _ h => h) HO.out HM.out.lim, HO.out.low⟩
theorem infzSr : (Tryz.prog.info? 138).map (fun i => (i.zero, i.size, i.bytes)) = some (some (.agg #[.string ⟨#[]⟩, .int .i64 0]), 2, 24) := by kernel_rfl
set_option maxRecDepth 100000 in
set_option maxHeartbeats 3200000 in
theorem copySr_z {w : World} {a : Option Addr} {l : List (Bytes × Int)} {c : Nat} (h : RR w.heap.size 2 cSrc w l (.slice a l.length c)) (hl : Szs 24 (fun _ => True) l) :
    Calls Tryz.prog 45 #[.slice a l.length c] w fun e w' => ∃ xa xc, e = .returned (.slice xa l.length xc) ∧ RZ (Nw w w') 2 (cSrcZ (Nw w w')) w' l (.slice xa l.length xc) ∧ Below w.heap.size w w' := by
  obtain ⟨iM, hiM, zM0, zM1, zM2⟩ := info_parts' infzSr
  have HM := hide h
  have HL := hide hl
  have hb9 := hl.1
  have O1 : Hid (Gz 138 2 cSrcZ w (l.take 0) 0 (.slice none 0 0) w) := hide Gz.nil
  clear h hl
  go_enter Tryz.func45, Tryz.ntmps45
  go_wp2_with fail
  go_loopw [3, 4] (fun mv x wr => ∃ (i : Nat) (a0 : Option Addr) (c0 : Nat), i ≤ l.length ∧ x = .int .i64 i ∧ mv = .slice a0 i c0 ∧ Hid (Gz 138 2 cSrcZ w (l.take i) i (.slice a0 i c0) wr)) (fun _ x _ => l.length - (intOf x).toNat)
  case atStart => exact ⟨0, none, 0, by omega, rfl, rfl, O1⟩
  case round =>
    clear O1
    obtain ⟨i, a0, c0, hi, rfl, rfl, HO⟩ := hrel
    by_cases hlt : i < l.length
    · obtain ⟨x, hx⟩ : ∃ x, l[i]? = some x := ⟨l[i], List.getElem?_eq_getElem hlt⟩
      have HT := hide (take_snoc hx)
      have HSZ := hide (Szs.at HL.out hx)
      obtain ⟨g, o, ys, rfl, hg, hk, hcell, hcx⟩ := RR.open (RR.go (c' := cSrc) HO.out.low HM.out (fun _ _ h => h)) hx
      have HC := hide hcx
      obtain ⟨rfl, m0⟩ := hcx
      clear hk hx
      have d0 : wr.cell? ⟨g, o + i * 2, none⟩ = some (.string ⟨x.1.toArray⟩) := hcell 0 _ rfl
      have d1 : wr.cell? ⟨g, o + i * 2 + 1, none⟩ = some (.int .i64 x.2) := hcell 1 _ rfl
      clear hcell
      unfold str at *
      obtain ⟨Z, xs, hrow, hz, hold⟩ := HO.out.body
      have HROW := hide hrow
      have HZ := hide hz
      have HOLD := hide hold
      have HL1 : w.heap.size ≤ wr.heap.size := HO.out.low.size
      have hgw : g < wr.heap.size := by omega
      clear hrow hz hold
      go_wp2_with (at_builtin; go_must (refine wpList_append_two _ rfl _ _ 26 rfl w.heap.size 138 iM _ 2 24 Tryz.underlying26 hiM zM0 zM1 zM2 rfl (by decide) _ _ _ rfl (HROW.out.alloc _) ⟨wr.heap.size, 0, none⟩ 1 [.string ⟨x.1.toArray⟩, .int .i64 x.2] rfl rfl (news_at rfl) (by simp [Value.oneCell']) (by unfold maxLen; omega) (by omega) (by simp; omega) ?_); intro g4 cap4 w4 hown4 hg4)
      have hz : (wr.alloc (.cells #[.string ⟨x.1.toArray⟩, .int .i64 x.2] 138)).heap.size = wr.heap.size + 1 := by simp
      rw [hz] at hg4
      refine ⟨⟨i + 1, some ⟨g4, 0, none⟩, cap4, by omega, by go_num, rfl, hide ?_⟩, by simp [intOf]; omega⟩
      rw [HT.out]
      exact Gz.grow (fun _ _ _ _ _ _ _ h => h) HO.out.low HO.out.len HROW.out HZ.out HOLD.out (Below.refl _ _) HC.out rfl hown4 hg4
    · have hk' : i = l.length := by omega
      subst hk'
      have HE := hide (List.take_of_length_le (Nat.le_refl l.length))
      rw [HE.out] at HO
      go_wp2_with fail
      go_ret
      exact ⟨_, _, rfl, Gz.done (fun _ _ _ _ _ _ _ h => h) HO.out HM.out.lim, HO.out.low⟩
theorem infzC : (Tryz.prog.info? 22).map (fun i => (i.zero, i.size, i.bytes)) = some (some (.slice none 0 0), 1, 24) := by kernel_rfl
set_option maxRecDepth 100000 in
set_option maxHeartbeats 3200000 in
theorem copyC_z {w : World} {a : Option Addr} {l : List (List Bytes)} {c : Nat} (h : RR w.heap.size 1 (cClass w.heap.size) w l (.slice a l.length c)) (hl : Szs 24 szC l) :
    Calls Tryz.prog 44 #[.slice a l.length c] w fun e w' => ∃ xa xc, e = .returned (.slice xa l.length xc) ∧ RZ (Nw w w') 1 (cClassZ (Nw w w')) w' l (.slice xa l.length xc) ∧ Below w.heap.size w w' := by
  obtain ⟨iM, hiM, zM0, zM1, zM2⟩ := info_parts' infzC
  have HM := hide h
  have HL := hide hl
  have hb9 := hl.1
  have O1 : Hid (Gz 22 1 cClassZ w (l.take 0) 0 (.slice none 0 0) w) := hide Gz.nil
  clear h hl
  go_enter Tryz.func44, Tryz.ntmps44
  go_wp2_with fail
  go_loopw [3, 4] (fun mv x wr => ∃ (i : Nat) (a0 : Option Addr) (c0 : Nat), i ≤ l.length ∧ x = .int .i64 i ∧ mv = .slice a0 i c0 ∧ Hid (Gz 22 1 cClassZ w (l.take i) i (.slice a0 i c0) wr)) (fun _ x _ => l.length - (intOf x).toNat)
  case atStart => exact ⟨0, none, 0, by omega, rfl, rfl, O1⟩
  case round =>
    clear O1
    obtain ⟨i, a0, c0, hi, rfl, rfl, HO⟩ := hrel
    by_cases hlt : i < l.length
    · obtain ⟨x, hx⟩ : ∃ x, l[i]? = some x := ⟨l[i], List.getElem?_eq_getElem hlt⟩
      have HT := hide (take_snoc hx)
      have HSZ := hide (Szs.at HL.out hx)
      obtain ⟨g, o, ys, rfl, hg, hk, hcell, hcx⟩ := RR.open (RR.go (c' := (cClass wr.heap.size)) HO.out.low HM.out (fun _ _ h => cClass.go HO.out.low h)) hx
      have HC := hide hcx
      obtain ⟨kv, rfl, r0⟩ := hcx
      obtain ⟨ka, kc, rfl, _⟩ := r0.form
      clear hk hx
      have d0 : wr.cell? ⟨g, o + i, none⟩ = some (.slice ka x.length kc) := by have := hcell 0 _ rfl; simpa using this
      clear hcell
      unfold str at *
      obtain ⟨Z, xs, hrow, hz, hold⟩ := HO.out.body
      have HROW := hide hrow
      have HZ := hide hz
      have HOLD := hide hold
      have HL1 : w.heap.size ≤ wr.heap.size := HO.out.low.size
      have hgw : g < wr.heap.size := by omega
      clear hrow hz hold
      have CX := hide (copyS_z (w := wr) r0 HSZ.out)
      go_wp2_with fail
      refine CX.out.mono ?_
      rintro _ wd ⟨xa, xc, rfl, hnew, hbd⟩
      have HNEW : Hid (cClassZ (Nw wr wd) wd x [.slice xa x.length xc]) := hide ⟨_, rfl, hnew⟩
      have HBD := hide hbd
      have HROW2 := hide (owns_keep HROW.out fun g hg => hbd.block g (owns_lt HROW.out hg))
      have HL2 : wr.heap.size ≤ wd.heap.size := hbd.size
      clear CX d0
      skip
      go_wp2_with (at_builtin; go_must (refine wpList_append_two _ rfl _ _ 25 rfl w.heap.size 22 iM _ 1 24 Tryz.underlying25 hiM zM0 zM1 zM2 rfl (by decide) _ _ _ rfl (HROW2.out.alloc _) ⟨wd.heap.size, 0, none⟩ 1 [.slice xa x.length xc] rfl rfl (news_at rfl) (by simp [Value.oneCell']) (by unfold maxLen; omega) (by omega) (by simp; omega) ?_); intro g4 cap4 w4 hown4 hg4)
      have hz : (wd.alloc (.cells #[.slice xa x.length xc] 22)).heap.size = wd.heap.size + 1 := by simp
      rw [hz] at hg4
      refine ⟨⟨i + 1, some ⟨g4, 0, none⟩, cap4, by omega, by go_num, rfl, hide ?_⟩, by simp [intOf]; omega⟩
      rw [HT.out]
      exact Gz.grow (fun _ _ _ _ _ _ ag h => cClassZ.keep ag h) HO.out.low HO.out.len HROW.out HZ.out HOLD.out HBD.out HNEW.out rfl hown4 hg4
    · have hk' : i = l.length := by omega
      subst hk'
      have HE := hide (List.take_of_length_le (Nat.le_refl l.length))
      rw [HE.out] at HO
      go_wp2_with fail
      go_ret
      exact ⟨_, _, rfl, Gz.done (fun _ _ _ _ _ _ ag h => cClassZ.keep ag h) HO.out HM.out.lim, HO.out.low⟩
set_option maxRecDepth 100000 in
set_option maxHeartbeats 3200000 in
theorem copyTe_q {w : World} {x : TermM} {xs : List Value} (h : cTerm w.heap.size w x xs) (hs : szT x) (Q : Ending → World → Prop) (hQ : ∀ ys w', cTermZ (Nw w w') w' x ys → Below w.heap.size w w' → Q (.returned (.agg ys.toArray)) w') :
    Calls Tryz.prog 195 #[.agg xs.toArray] w Q := by
  obtain ⟨av, rfl, p1, r2⟩ := h
  obtain ⟨ka, kc, rfl, _⟩ := r2.form
  have R2 := hide r2
  have P1 := hide p1
  clear r2 p1
  have HQ := hide hQ
  have HSZ := hide hs
  clear hQ hs
  unfold str at *
  show Calls Tryz.prog 195 #[.agg #[.int .i64 x.coef, .string ⟨x.pred.toArray⟩, .slice ka x.args.length kc, .int .i64 x.value]] w Q
  have X0 := hide (Bx.two (T := 156) (A := [.int .i64 x.coef, .string ⟨x.pred.toArray⟩, .slice ka x.args.length kc, .int .i64 x.value]) (Z0 := [.int .i64 0, .string ⟨#[]⟩, .slice none 0 0, .int .i64 0]) (w := w))
  go_enter Tryz.func195, Tryz.ntmps195
  go_upto_region 1 with fail
  generalize (w.alloc (.cells #[.int .i64 x.coef, .string ⟨x.pred.toArray⟩, .slice ka x.args.length kc, .int .i64 x.value] 156)).alloc (.cells #[.int .i64 0, .string ⟨#[]⟩, .slice none 0 0, .int .i64 0] 156) = W0 at *
  have a2 := cell_of_row _ _ 2 _ _ _ X0.out.b1
  simp only [List.getElem?_toArray, List.getElem?_cons_zero, List.getElem?_cons_succ] at a2
  have CX := hide (copyS_z (w := W0) (Strs.go X0.out.low R2.out) HSZ.out)
  go_wp2_with fail
  refine CX.out.mono ?_
  rintro _ v1 ⟨xa, xc, rfl, hv, hbd⟩
  have HBD := hide hbd
  have Y0 := hide (X0.out.call hbd)
  have V2 := hide (StrsZ.keep (Bx.agn X0.out (w3 := v1) 2 [.slice xa x.args.length xc]) hv)
  have X1 := hide (Bx.set (A' := [.int .i64 x.coef, .string ⟨x.pred.toArray⟩, .slice xa x.args.length xc, .int .i64 x.value]) Y0.out 2 [.slice xa x.args.length xc] rfl)
  have c2 := cell_of_row _ _ 2 _ _ _ Y0.out.b1
  have f2 := frozen_of_row v1 _ 2 _ _ Y0.out.b1
  simp only [List.getElem?_toArray, List.getElem?_cons_zero, List.getElem?_cons_succ] at c2
  simp only [setAll] at X1 V2
  clear CX hbd X0 Y0 HBD a2 hv
  go_upto_region 2 with fail
  clear c2 f2
  generalize (v1).setCell ⟨w.heap.size, 2, none⟩ (.slice xa x.args.length xc) = W1 at *
  have c0 := cell_of_row _ _ 0 _ _ _ X1.out.b1
  have e0 := cell_of_row _ _ 0 _ _ _ X1.out.b2
  have g0 := frozen_of_row W1 _ 0 _ _ X1.out.b2
  have c1 := cell_of_row _ _ 1 _ _ _ X1.out.b1
  have e1 := cell_of_row _ _ 1 _ _ _ X1.out.b2
  have g1 := frozen_of_row W1 _ 1 _ _ X1.out.b2
  have c2 := cell_of_row _ _ 2 _ _ _ X1.out.b1
  have e2 := cell_of_row _ _ 2 _ _ _ X1.out.b2
  have g2 := frozen_of_row W1 _ 2 _ _ X1.out.b2
  have c3 := cell_of_row _ _ 3 _ _ _ X1.out.b1
  have e3 := cell_of_row _ _ 3 _ _ _ X1.out.b2
  have g3 := frozen_of_row W1 _ 3 _ _ X1.out.b2
  simp only [List.getElem?_toArray, List.getElem?_cons_zero, List.getElem?_cons_succ] at c0 e0 c1 e1 c2 e2 c3 e3
  have hne : ¬ w.heap.size = w.heap.size + 1 := by omega
  have HY := hide (Bx.fin X1.out rfl)
  have V2 := hide (StrsZ.keep (Bx.agf (A := [.int .i64 x.coef, .string ⟨x.pred.toArray⟩, .slice xa x.args.length xc, .int .i64 x.value])) V2.out)
  simp only [setAll] at HY V2
  clear X1
  go_wp2_with fail
  clear hne c0 e0 g0 c1 e1 g1 c2 e2 g2 c3 e3 g3
  generalize ((((W1).setCell ⟨w.heap.size + 1, 0, none⟩ (.int .i64 x.coef)).setCell ⟨w.heap.size + 1, 1, none⟩ (.string ⟨x.pred.toArray⟩)).setCell ⟨w.heap.size + 1, 2, none⟩ (.slice xa x.args.length xc)).setCell ⟨w.heap.size + 1, 3, none⟩ (.int .i64 x.value) = Y at *
  obtain ⟨hY, hbe⟩ := HY.out
  have z0 := cell_of_row _ _ 0 _ _ _ hY
  have z1 := cell_of_row _ _ 1 _ _ _ hY
  have z2 := cell_of_row _ _ 2 _ _ _ hY
  have z3 := cell_of_row _ _ 3 _ _ _ hY
  simp only [List.getElem?_toArray, List.getElem?_cons_zero, List.getElem?_cons_succ] at z0 z1 z2 z3
  clear hY HY
  simp [bodyPost, results, Tryz.results195, go_sem, z0, z1, z2, z3]
  exact HQ.out [.int .i64 x.coef, .string ⟨x.pred.toArray⟩, .slice xa x.args.length xc, .int .i64 x.value] Y ⟨_, rfl, P1.out, V2.out⟩ hbe
theorem copyTe_z {w : World} {x : TermM} {xs : List Value} (h : cTerm w.heap.size w x xs) (hs : szT x) :
    Calls Tryz.prog 195 #[.agg xs.toArray] w fun e w' => ∃ ys, e = .returned (.agg ys.toArray) ∧ cTermZ (Nw w w') w' x ys ∧ Below w.heap.size w w' :=
  copyTe_q h hs _ fun ys _ h1 h2 => ⟨ys, rfl, h1, h2⟩
set_option maxRecDepth 100000 in
set_option maxHeartbeats 3200000 in
theorem copyLi_q {w : World} {x : LitM} {xs : List Value} (h : cLit w.heap.size w x xs) (hs : szL x) (Q : Ending → World → Prop) (hQ : ∀ ys w', cLitZ (Nw w w') w' x ys → Below w.heap.size w w' → Q (.returned (.agg ys.toArray)) w') :
    Calls Tryz.prog 35 #[.agg xs.toArray] w Q := by
  obtain ⟨av, rfl, p1, r2⟩ := h
  obtain ⟨ka, kc, rfl, _⟩ := r2.form
  have R2 := hide r2
  have P1 := hide p1
  clear r2 p1
  have HQ := hide hQ
  have HSZ := hide hs
  clear hQ hs
  unfold str at *
  show Calls Tryz.prog 35 #[.agg #[.bool x.neg, .string ⟨x.pred.toArray⟩, .slice ka x.args.length kc, .bool x.hasValue, .int .i64 x.value]] w Q
  have X0 := hide (Bx.two (T := 59) (A := [.bool x.neg, .string ⟨x.pred.toArray⟩, .slice ka x.args.length kc, .bool x.hasValue, .int .i64 x.value]) (Z0 := [.bool false, .string ⟨#[]⟩, .slice none 0 0, .bool false, .int .i64 0]) (w := w))
  go_enter Tryz.func35, Tryz.ntmps35
  go_upto_region 1 with fail
  generalize (w.alloc (.cells #[.bool x.neg, .string ⟨x.pred.toArray⟩, .slice ka x.args.length kc, .bool x.hasValue, .int .i64 x.value] 59)).alloc (.cells #[.bool false, .string ⟨#[]⟩, .slice none 0 0, .bool false, .int .i64 0] 59) = W0 at *
  have a2 := cell_of_row _ _ 2 _ _ _ X0.out.b1
  simp only [List.getElem?_toArray, List.getElem?_cons_zero, List.getElem?_cons_succ] at a2
  have CX := hide (copyS_z (w := W0) (Strs.go X0.out.low R2.out) HSZ.out)
  go_wp2_with fail
  refine CX.out.mono ?_
  rintro _ v1 ⟨xa, xc, rfl, hv, hbd⟩
  have HBD := hide hbd
  have Y0 := hide (X0.out.call hbd)
  have V2 := hide (StrsZ.keep (Bx.agn X0.out (w3 := v1) 2 [.slice xa x.args.length xc]) hv)
  have X1 := hide (Bx.set (A' := [.bool x.neg, .string ⟨x.pred.toArray⟩, .slice xa x.args.length xc, .bool x.hasValue, .int .i64 x.value]) Y0.out 2 [.slice xa x.args.length xc] rfl)
  have c2 := cell_of_row _ _ 2 _ _ _ Y0.out.b1
  have f2 := frozen_of_row v1 _ 2 _ _ Y0.out.b1
  simp only [List.getElem?_toArray, List.getElem?_cons_zero, List.getElem?_cons_succ] at c2
  simp only [setAll] at X1 V2
  clear CX hbd X0 Y0 HBD a2 hv
  go_upto_region 2 with fail
  clear c2 f2
  generalize (v1).setCell ⟨w.heap.size, 2, none⟩ (.slice xa x.args.length xc) = W1 at *
  have c0 := cell_of_row _ _ 0 _ _ _ X1.out.b1
  have e0 := cell_of_row _ _ 0 _ _ _ X1.out.b2
  have g0 := frozen_of_row W1 _ 0 _ _ X1.out.b2
  have c1 := cell_of_row _ _ 1 _ _ _ X1.out.b1
  have e1 := cell_of_row _ _ 1 _ _ _ X1.out.b2
  have g1 := frozen_of_row W1 _ 1 _ _ X1.out.b2
  have c2 := cell_of_row _ _ 2 _ _ _ X1.out.b1
  have e2 := cell_of_row _ _ 2 _ _ _ X1.out.b2
  have g2 := frozen_of_row W1 _ 2 _ _ X1.out.b2
  have c3 := cell_of_row _ _ 3 _ _ _ X1.out.b1
  have e3 := cell_of_row _ _ 3 _ _ _ X1.out.b2
  have g3 := frozen_of_row W1 _ 3 _ _ X1.out.b2
  have c4 := cell_of_row _ _ 4 _ _ _ X1.out.b1
  have e4 := cell_of_row _ _ 4 _ _ _ X1.out.b2
  have g4 := frozen_of_row W1 _ 4 _ _ X1.out.b2
  simp only [List.getElem?_toArray, List.getElem?_cons_zero, List.getElem?_cons_succ] at c0 e0 c1 e1 c2 e2 c3 e3 c4 e4
  have hne : ¬ w.heap.size = w.heap.size + 1 := by omega
  have HY := hide (Bx.fin X1.out rfl)
  have V2 := hide (StrsZ.keep (Bx.agf (A := [.bool x.neg, .string ⟨x.pred.toArray⟩, .slice xa x.args.length xc, .bool x.hasValue, .int .i64 x.value])) V2.out)
  simp only [setAll] at HY V2
  clear X1
  go_wp2_with fail
  clear hne c0 e0 g0 c1 e1 g1 c2 e2 g2 c3 e3 g3 c4 e4 g4
  generalize (((((W1).setCell ⟨w.heap.size + 1, 0, none⟩ (.bool x.neg)).setCell ⟨w.heap.size + 1, 1, none⟩ (.string ⟨x.pred.toArray⟩)).setCell ⟨w.heap.size + 1, 2, none⟩ (.slice xa x.args.length xc)).setCell ⟨w.heap.size + 1, 3, none⟩ (.bool x.hasValue)).setCell ⟨w.heap.size + 1, 4, none⟩ (.int .i64 x.value) = Y at *
  obtain ⟨hY, hbe⟩ := HY.out
  have z0 := cell_of_row _ _ 0 _ _ _ hY
  have z1 := cell_of_row _ _ 1 _ _ _ hY
  have z2 := cell_of_row _ _ 2 _ _ _ hY
  have z3 := cell_of_row _ _ 3 _ _ _ hY
  have z4 := cell_of_row _ _ 4 _ _ _ hY
  simp only [List.getElem?_toArray, List.getElem?_cons_zero, List.getElem?_cons_succ] at z0 z1 z2 z3 z4
  clear hY HY
  simp [bodyPost, results, Tryz.results35, go_sem, z0, z1, z2, z3, z4]
  exact HQ.out [.bool x.neg, .string ⟨x.pred.toArray⟩, .slice xa x.args.length xc, .bool x.hasValue, .int .i64 x.value] Y ⟨_, rfl, P1.out, V2.out⟩ hbe
theorem copyLi_z {w : World} {x : LitM} {xs : List Value} (h : cLit w.heap.size w x xs) (hs : szL x) :
    Calls Tryz.prog 35 #[.agg xs.toArray] w fun e w' => ∃ ys, e = .returned (.agg ys.toArray) ∧ cLitZ (Nw w w') w' x ys ∧ Below w.heap.size w w' :=
  copyLi_q h hs _ fun ys _ h1 h2 => ⟨ys, rfl, h1, h2⟩
end Go.Proofs.YtfnobccminhjpaaGreat
