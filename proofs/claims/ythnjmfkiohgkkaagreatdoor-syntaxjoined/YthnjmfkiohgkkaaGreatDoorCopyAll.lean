/- Copies of lists: the same things in memory of their own. By program (tools/gen5/c18.py). -/
import Derived.Test.YthnjmfkiohgkkaaGreatDoorSameAll
import Derived.Test.YthnjmfkiohgkkaaGreatDoorMem5
import Derived.Test.YthnjmfkiohgkkaaGreatDoorSpacedForm
namespace Go.Proofs.YthnjmfkiohgkkaaGreatDoor.Sy
open Go.RowKit

/-- The thing has been put behind the list. -/
theorem put_more {α : Type} {Z : Nat → Prop} {e k : Nat} {c : World → α → List Value → Prop} {T : List Nat} {B : Nat} {w w3 w4 : World} {l : List α} {tv : Value} {news : List Value} {a : α} {g cap ty : Nat}
    {xs : List Value} (hw3 : w3 = w.alloc (.cells news.toArray ty))
    (hrow : Row Z e k w tv l.length xs) (hold : ∀ i b, l[i]? = some b → c w b ((xs.drop (i * k)).take k)) (hnew : c w a news) (hn : news.length = k) (hz : ∀ g, w.heap.size ≤ g → Z g)
    (hc : ∀ w w' b ys, Kp T Z w w' → c w b ys → c w' b ys) (heT : e ∉ T) (hzB : ∀ g, Z g → B ≤ g) (hB : B ≤ w.heap.size)
    (hown : w4.ownsRow 0 e k (.slice (some ⟨g, 0, none⟩) (l.length + 1) cap) (l.length + 1) (xs ++ news))
    (hg : (tv.ownBlock = some g ∧ w3.grownBy w4 (some g)) ∨ (g = w.heap.size + 1 ∧ w3.grownBy w4 none)) :
    Rows Z e k c w4 (l ++ [a]) (.slice (some ⟨g, 0, none⟩) (l.length + 1) cap) ∧ Below B w w4 := by
  have hsz : w3.heap.size = w.heap.size + 1 := by rw [hw3]; simp
  have hold3 : ∀ k, k < w.heap.size → w3.heap[k]? = w.heap[k]? := fun k hk => by rw [hw3]; exact Go.heap_alloc_old w _ hk
  have hown' : ∀ g, tv.ownBlock = some g → ∃ cur, w.heap[g]? = some (.cells cur e (0, 0)) := by
    intro g hg
    rcases hrow.1.2 with ⟨h1, _⟩ | ⟨g', cap, cur, h1, _, h3, _⟩
    · rw [h1] at hg; cases hg
    · rw [h1] at hg; cases hg; exact ⟨cur, h3⟩
  have hlt : ∀ g, tv.ownBlock = some g → g < w.heap.size := fun g hg => (hrow.1.lt g hg).2
  obtain ⟨row, hr1, hr2⟩ : ∃ row, (row = none ∨ row = tv.ownBlock) ∧ w3.grownBy w4 row := by
    rcases hg with ⟨h1, h2⟩ | ⟨_, h2⟩
    · exact ⟨some g, .inr h1.symm, h2⟩
    · exact ⟨none, .inl rfl, h2⟩
  have hK : Kp T Z w w4 := by
    have h1 : Kp T Z w w3 := Kp.of_below ⟨by rw [hw3]; rfl, by rw [hw3]; rfl, by rw [hw3]; rfl, by omega, fun k hk => hold3 k hk⟩
    refine h1.trans (Kp.of_grown hr2 (fun g hg => ?_) heT)
    rcases hr1 with rfl | rfl
    · cases hg
    · obtain ⟨cur, hcur⟩ := hown' g hg
      exact ⟨cur, (hold3 g (hlt g hg)).trans hcur⟩
  refine ⟨Rows.snoc ⟨hown, fun g' hg' => ?_⟩ hrow.1.1 hn (fun i b hi => hc _ _ _ _ hK (hold i b hi)) (hc _ _ _ _ hK hnew), ⟨hr2.os.trans (by rw [hw3]; rfl), hr2.tape.trans (by rw [hw3]; rfl), hr2.output.trans (by rw [hw3]; rfl), by have := hr2.size; omega, fun k hk => ?_⟩⟩
  · simp only [Value.ownBlock, Option.some.injEq] at hg'
    subst hg'
    rcases hg with ⟨h1, _⟩ | ⟨h1, _⟩
    · exact hrow.2 _ h1
    · exact hz _ (by omega)
  · exact (hr2.block k (by omega) (by
      rcases hr1 with rfl | rfl
      · simp
      · intro h'
        have := hzB k (hrow.2 k h'.symm)
        omega)).trans (hold3 k (by omega))

theorem take_snoc {α : Type} {l : List α} {k : Nat} {t : α} (h : l[k]? = some t) : l.take k ++ [t] = l.take (k + 1) := by
  obtain ⟨hk, e⟩ := List.getElem?_eq_some_iff.1 h
  rw [List.take_succ_eq_append_getElem hk, e]

set_option maxRecDepth 100000 in
set_option maxHeartbeats 1600000 in
theorem copy_CopyStrings {Z : Nat → Prop} (l : List Bytes) (va : Value) (w : World) (ha : Rows Z 9 1 cS w l va) (hl : l.length ≤ 1000000000) :
    Calls Tryz.prog 37 #[va] w fun e w' => ∃ v, e = .returned v ∧ Rows (New w) 9 1 cS w' l v ∧ Below w.heap.size w w' := by
  obtain ⟨iM, hiM, zM0, zM1, zM2⟩ := info_parts' info_string
  have HA := hide ha
  obtain ⟨aa, ca, rfl⟩ := rows_form ha
  clear ha
  go_enter Tryz.func37, Tryz.ntmps37
  go_wp2_with fail
  go_loopw [3, 4] (fun x z wr => ∃ k : Nat, k ≤ l.length ∧ z = .int .i64 k ∧ Hid (Rows (New w) 9 1 cS wr (l.take k) x) ∧ Hid (Below w.heap.size w wr)) (fun _ z _ => l.length - (intOf z).toNat)
  case atStart => exact ⟨0, by omega, rfl, hide (Rows.nil _ _ _ _ _), hide (Below.refl _ w)⟩
  case round =>
    obtain ⟨k, hk, rfl, HV, HW⟩ := hrel
    by_cases hlt : k < l.length
    · obtain ⟨t, ht⟩ : ∃ t, l[k]? = some t := ⟨l[k], by simp [hlt]⟩
      obtain ⟨ga, xa, ya, e1, _, h1, h2⟩ := (HA.out.keep (T := [9]) (Kp.of_below HW.out) (by decide) (fun _ _ h => h)).at ht
      simp only [Value.slice.injEq] at e1
      obtain ⟨rfl, _, rfl⟩ := e1
      unfold cS at h1
      subst h1
      have a0 : wr.cell? ⟨ga, k, none⟩ = some (.string ⟨t.toArray⟩) := by have := h2 0 _ rfl; simpa using this
      have HS := hide (take_snoc ht)
      obtain ⟨xs, hrow, hold⟩ := HV.out
      have hln : (l.take k).length = k := by simp; omega
      obtain ⟨ta, tc, rfl⟩ := slice_form hrow.1
      rw [hln] at hrow
      have HROW := hide hrow
      have HOLD := hide hold
      have HZ : Hid (∀ g, wr.heap.size ≤ g → New w g) := hide fun g hg => Nat.le_trans HW.out.size hg
      have hsz := HW.out.size
      have HSZ := hide hsz
      clear h2 ht hrow hold HV hsz
      rw [hln]
      go_wp2_with (at_builtin; go_must (refine wpList_append_two _ rfl _ _ 22 rfl 0 9 iM _ 1 16 Tryz.underlying22 hiM zM0 zM1 zM2 rfl (by decide) _ _ _ rfl (HROW.out.1.alloc _) ⟨wr.heap.size, 0, none⟩ 1 [.string ⟨t.toArray⟩] rfl rfl (news_at rfl) (by simp [Value.oneCell']) (by unfold maxLen; omega) (by omega) (Nat.zero_le _) ?_))
      intro g cap w4 hown hg
      obtain ⟨p1, p2⟩ := put_more (T := []) (B := w.heap.size) (a := t) rfl (by rw [hln]; exact HROW.out) HOLD.out rfl rfl HZ.out (fun _ _ _ _ _ h => h) (by decide) (fun g hg => hg) HSZ.out (by rw [hln]; exact hown) hg
      rw [HS.out, hln] at p1
      have P1 := hide p1
      have P2 := hide (HW.out.trans p2)
      clear p1 p2 hown hg HROW HOLD HW HZ HSZ
      go_wp2_with fail
      go_roundw
      case rel => exact ⟨k + 1, by omega, by go_num, P1, P2⟩
      case measure => simp [intOf]; omega
    · have ek : k = l.length := by omega
      subst ek
      rw [List.take_length] at HV
      go_wp2_with fail
      go_ret
      exact ⟨_, rfl, HV.out, HW.out⟩

set_option maxRecDepth 100000 in
set_option maxHeartbeats 1600000 in
theorem copy_CopyMoney {Z : Nat → Prop} (l : List Int) (va : Value) (w : World) (ha : Rows Z 93 1 cI w l va) (hl : l.length ≤ 1000000000) :
    Calls Tryz.prog 107 #[va] w fun e w' => ∃ v, e = .returned v ∧ Rows (New w) 93 1 cI w' l v ∧ Below w.heap.size w w' := by
  obtain ⟨iM, hiM, zM0, zM1, zM2⟩ := info_parts' info_money
  have HA := hide ha
  obtain ⟨aa, ca, rfl⟩ := rows_form ha
  clear ha
  go_enter Tryz.func107, Tryz.ntmps107
  go_wp2_with fail
  go_loopw [3, 4] (fun x z wr => ∃ k : Nat, k ≤ l.length ∧ z = .int .i64 k ∧ Hid (Rows (New w) 93 1 cI wr (l.take k) x) ∧ Hid (Below w.heap.size w wr)) (fun _ z _ => l.length - (intOf z).toNat)
  case atStart => exact ⟨0, by omega, rfl, hide (Rows.nil _ _ _ _ _), hide (Below.refl _ w)⟩
  case round =>
    obtain ⟨k, hk, rfl, HV, HW⟩ := hrel
    by_cases hlt : k < l.length
    · obtain ⟨t, ht⟩ : ∃ t, l[k]? = some t := ⟨l[k], by simp [hlt]⟩
      obtain ⟨ga, xa, ya, e1, _, h1, h2⟩ := (HA.out.keep (T := [93]) (Kp.of_below HW.out) (by decide) (fun _ _ h => h)).at ht
      simp only [Value.slice.injEq] at e1
      obtain ⟨rfl, _, rfl⟩ := e1
      unfold cI at h1
      subst h1
      have a0 : wr.cell? ⟨ga, k, none⟩ = some (.int .i64 t) := by have := h2 0 _ rfl; simpa using this
      have HS := hide (take_snoc ht)
      obtain ⟨xs, hrow, hold⟩ := HV.out
      have hln : (l.take k).length = k := by simp; omega
      obtain ⟨ta, tc, rfl⟩ := slice_form hrow.1
      rw [hln] at hrow
      have HROW := hide hrow
      have HOLD := hide hold
      have HZ : Hid (∀ g, wr.heap.size ≤ g → New w g) := hide fun g hg => Nat.le_trans HW.out.size hg
      have hsz := HW.out.size
      have HSZ := hide hsz
      clear h2 ht hrow hold HV hsz
      rw [hln]
      go_wp2_with (at_builtin; go_must (refine wpList_append_two _ rfl _ _ 90 rfl 0 93 iM _ 1 8 Tryz.underlying90 hiM zM0 zM1 zM2 rfl (by decide) _ _ _ rfl (HROW.out.1.alloc _) ⟨wr.heap.size, 0, none⟩ 1 [.int .i64 t] rfl rfl (news_at rfl) (by simp [Value.oneCell']) (by unfold maxLen; omega) (by omega) (Nat.zero_le _) ?_))
      intro g cap w4 hown hg
      obtain ⟨p1, p2⟩ := put_more (T := []) (B := w.heap.size) (a := t) rfl (by rw [hln]; exact HROW.out) HOLD.out rfl rfl HZ.out (fun _ _ _ _ _ h => h) (by decide) (fun g hg => hg) HSZ.out (by rw [hln]; exact hown) hg
      rw [HS.out, hln] at p1
      have P1 := hide p1
      have P2 := hide (HW.out.trans p2)
      clear p1 p2 hown hg HROW HOLD HW HZ HSZ
      go_wp2_with fail
      go_roundw
      case rel => exact ⟨k + 1, by omega, by go_num, P1, P2⟩
      case measure => simp [intOf]; omega
    · have ek : k = l.length := by omega
      subst ek
      rw [List.take_length] at HV
      go_wp2_with fail
      go_ret
      exact ⟨_, rfl, HV.out, HW.out⟩

set_option maxRecDepth 100000 in
set_option maxHeartbeats 1600000 in
theorem copy_CopyMembers {Z : Nat → Prop} (l : List (Bytes × Bytes)) (va : Value) (w : World) (ha : Rows Z 78 2 cM w l va) (hl : l.length ≤ 1000000000) :
    Calls Tryz.prog 38 #[va] w fun e w' => ∃ v, e = .returned v ∧ Rows (New w) 78 2 cM w' l v ∧ Below w.heap.size w w' := by
  obtain ⟨iM, hiM, zM0, zM1, zM2⟩ := info_parts' info_member
  have HA := hide ha
  obtain ⟨aa, ca, rfl⟩ := rows_form ha
  clear ha
  go_enter Tryz.func38, Tryz.ntmps38
  go_wp2_with fail
  go_loopw [3, 4] (fun x z wr => ∃ k : Nat, k ≤ l.length ∧ z = .int .i64 k ∧ Hid (Rows (New w) 78 2 cM wr (l.take k) x) ∧ Hid (Below w.heap.size w wr)) (fun _ z _ => l.length - (intOf z).toNat)
  case atStart => exact ⟨0, by omega, rfl, hide (Rows.nil _ _ _ _ _), hide (Below.refl _ w)⟩
  case round =>
    obtain ⟨k, hk, rfl, HV, HW⟩ := hrel
    by_cases hlt : k < l.length
    · obtain ⟨t, ht⟩ : ∃ t, l[k]? = some t := ⟨l[k], by simp [hlt]⟩
      obtain ⟨ga, xa, ya, e1, _, h1, h2⟩ := (HA.out.keep (T := [78]) (Kp.of_below HW.out) (by decide) (fun _ _ h => h)).at ht
      simp only [Value.slice.injEq] at e1
      obtain ⟨rfl, _, rfl⟩ := e1
      unfold cM at h1
      subst h1
      have a0 : wr.cell? ⟨ga, k * 2, none⟩ = some (.string ⟨t.1.toArray⟩) := by have := h2 0 _ rfl; simpa using this
      have a1 : wr.cell? ⟨ga, k * 2 + 1, none⟩ = some (.string ⟨t.2.toArray⟩) := by have := h2 1 _ rfl; simpa using this
      have HS := hide (take_snoc ht)
      obtain ⟨xs, hrow, hold⟩ := HV.out
      have hln : (l.take k).length = k := by simp; omega
      obtain ⟨ta, tc, rfl⟩ := slice_form hrow.1
      rw [hln] at hrow
      have HROW := hide hrow
      have HOLD := hide hold
      have HZ : Hid (∀ g, wr.heap.size ≤ g → New w g) := hide fun g hg => Nat.le_trans HW.out.size hg
      have hsz := HW.out.size
      have HSZ := hide hsz
      clear h2 ht hrow hold HV hsz
      rw [hln]
      go_wp2_with (at_builtin; go_must (refine wpList_append_two _ rfl _ _ 23 rfl 0 78 iM _ 2 32 Tryz.underlying23 hiM zM0 zM1 zM2 rfl (by decide) _ _ _ rfl (HROW.out.1.alloc _) ⟨wr.heap.size, 0, none⟩ 1 [.string ⟨t.1.toArray⟩, .string ⟨t.2.toArray⟩] rfl rfl (news_at rfl) (by simp [Value.oneCell']) (by unfold maxLen; omega) (by omega) (Nat.zero_le _) ?_))
      intro g cap w4 hown hg
      obtain ⟨p1, p2⟩ := put_more (T := []) (B := w.heap.size) (a := t) rfl (by rw [hln]; exact HROW.out) HOLD.out rfl rfl HZ.out (fun _ _ _ _ _ h => h) (by decide) (fun g hg => hg) HSZ.out (by rw [hln]; exact hown) hg
      rw [HS.out, hln] at p1
      have P1 := hide p1
      have P2 := hide (HW.out.trans p2)
      clear p1 p2 hown hg HROW HOLD HW HZ HSZ
      go_wp2_with fail
      go_roundw
      case rel => exact ⟨k + 1, by omega, by go_num, P1, P2⟩
      case measure => simp [intOf]; omega
    · have ek : k = l.length := by omega
      subst ek
      rw [List.take_length] at HV
      go_wp2_with fail
      go_ret
      exact ⟨_, rfl, HV.out, HW.out⟩

set_option maxRecDepth 100000 in
set_option maxHeartbeats 1600000 in
theorem copy_CopySources {Z : Nat → Prop} (l : List (Bytes × Int)) (va : Value) (w : World) (ha : Rows Z 126 2 cSrc w l va) (hl : l.length ≤ 1000000000) :
    Calls Tryz.prog 41 #[va] w fun e w' => ∃ v, e = .returned v ∧ Rows (New w) 126 2 cSrc w' l v ∧ Below w.heap.size w w' := by
  obtain ⟨iM, hiM, zM0, zM1, zM2⟩ := info_parts' info_source
  have HA := hide ha
  obtain ⟨aa, ca, rfl⟩ := rows_form ha
  clear ha
  go_enter Tryz.func41, Tryz.ntmps41
  go_wp2_with fail
  go_loopw [3, 4] (fun x z wr => ∃ k : Nat, k ≤ l.length ∧ z = .int .i64 k ∧ Hid (Rows (New w) 126 2 cSrc wr (l.take k) x) ∧ Hid (Below w.heap.size w wr)) (fun _ z _ => l.length - (intOf z).toNat)
  case atStart => exact ⟨0, by omega, rfl, hide (Rows.nil _ _ _ _ _), hide (Below.refl _ w)⟩
  case round =>
    obtain ⟨k, hk, rfl, HV, HW⟩ := hrel
    by_cases hlt : k < l.length
    · obtain ⟨t, ht⟩ : ∃ t, l[k]? = some t := ⟨l[k], by simp [hlt]⟩
      obtain ⟨ga, xa, ya, e1, _, h1, h2⟩ := (HA.out.keep (T := [126]) (Kp.of_below HW.out) (by decide) (fun _ _ h => h)).at ht
      simp only [Value.slice.injEq] at e1
      obtain ⟨rfl, _, rfl⟩ := e1
      unfold cSrc at h1
      subst h1
      have a0 : wr.cell? ⟨ga, k * 2, none⟩ = some (.string ⟨t.1.toArray⟩) := by have := h2 0 _ rfl; simpa using this
      have a1 : wr.cell? ⟨ga, k * 2 + 1, none⟩ = some (.int .i64 t.2) := by have := h2 1 _ rfl; simpa using this
      have HS := hide (take_snoc ht)
      obtain ⟨xs, hrow, hold⟩ := HV.out
      have hln : (l.take k).length = k := by simp; omega
      obtain ⟨ta, tc, rfl⟩ := slice_form hrow.1
      rw [hln] at hrow
      have HROW := hide hrow
      have HOLD := hide hold
      have HZ : Hid (∀ g, wr.heap.size ≤ g → New w g) := hide fun g hg => Nat.le_trans HW.out.size hg
      have hsz := HW.out.size
      have HSZ := hide hsz
      clear h2 ht hrow hold HV hsz
      rw [hln]
      go_wp2_with (at_builtin; go_must (refine wpList_append_two _ rfl _ _ 26 rfl 0 126 iM _ 2 24 Tryz.underlying26 hiM zM0 zM1 zM2 rfl (by decide) _ _ _ rfl (HROW.out.1.alloc _) ⟨wr.heap.size, 0, none⟩ 1 [.string ⟨t.1.toArray⟩, .int .i64 t.2] rfl rfl (news_at rfl) (by simp [Value.oneCell']) (by unfold maxLen; omega) (by omega) (Nat.zero_le _) ?_))
      intro g cap w4 hown hg
      obtain ⟨p1, p2⟩ := put_more (T := []) (B := w.heap.size) (a := t) rfl (by rw [hln]; exact HROW.out) HOLD.out rfl rfl HZ.out (fun _ _ _ _ _ h => h) (by decide) (fun g hg => hg) HSZ.out (by rw [hln]; exact hown) hg
      rw [HS.out, hln] at p1
      have P1 := hide p1
      have P2 := hide (HW.out.trans p2)
      clear p1 p2 hown hg HROW HOLD HW HZ HSZ
      go_wp2_with fail
      go_roundw
      case rel => exact ⟨k + 1, by omega, by go_num, P1, P2⟩
      case measure => simp [intOf]; omega
    · have ek : k = l.length := by omega
      subst ek
      rw [List.take_length] at HV
      go_wp2_with fail
      go_ret
      exact ⟨_, rfl, HV.out, HW.out⟩

set_option maxRecDepth 100000 in
set_option maxHeartbeats 1600000 in
theorem copy_CopyExcepts {Z : Nat → Prop} (l : List (Bytes × Bytes)) (va : Value) (w : World) (ha : Rows Z 128 2 cM w l va) (hl : l.length ≤ 1000000000) :
    Calls Tryz.prog 43 #[va] w fun e w' => ∃ v, e = .returned v ∧ Rows (New w) 128 2 cM w' l v ∧ Below w.heap.size w w' := by
  obtain ⟨iM, hiM, zM0, zM1, zM2⟩ := info_parts' info_except
  have HA := hide ha
  obtain ⟨aa, ca, rfl⟩ := rows_form ha
  clear ha
  go_enter Tryz.func43, Tryz.ntmps43
  go_wp2_with fail
  go_loopw [3, 4] (fun x z wr => ∃ k : Nat, k ≤ l.length ∧ z = .int .i64 k ∧ Hid (Rows (New w) 128 2 cM wr (l.take k) x) ∧ Hid (Below w.heap.size w wr)) (fun _ z _ => l.length - (intOf z).toNat)
  case atStart => exact ⟨0, by omega, rfl, hide (Rows.nil _ _ _ _ _), hide (Below.refl _ w)⟩
  case round =>
    obtain ⟨k, hk, rfl, HV, HW⟩ := hrel
    by_cases hlt : k < l.length
    · obtain ⟨t, ht⟩ : ∃ t, l[k]? = some t := ⟨l[k], by simp [hlt]⟩
      obtain ⟨ga, xa, ya, e1, _, h1, h2⟩ := (HA.out.keep (T := [128]) (Kp.of_below HW.out) (by decide) (fun _ _ h => h)).at ht
      simp only [Value.slice.injEq] at e1
      obtain ⟨rfl, _, rfl⟩ := e1
      unfold cM at h1
      subst h1
      have a0 : wr.cell? ⟨ga, k * 2, none⟩ = some (.string ⟨t.1.toArray⟩) := by have := h2 0 _ rfl; simpa using this
      have a1 : wr.cell? ⟨ga, k * 2 + 1, none⟩ = some (.string ⟨t.2.toArray⟩) := by have := h2 1 _ rfl; simpa using this
      have HS := hide (take_snoc ht)
      obtain ⟨xs, hrow, hold⟩ := HV.out
      have hln : (l.take k).length = k := by simp; omega
      obtain ⟨ta, tc, rfl⟩ := slice_form hrow.1
      rw [hln] at hrow
      have HROW := hide hrow
      have HOLD := hide hold
      have HZ : Hid (∀ g, wr.heap.size ≤ g → New w g) := hide fun g hg => Nat.le_trans HW.out.size hg
      have hsz := HW.out.size
      have HSZ := hide hsz
      clear h2 ht hrow hold HV hsz
      rw [hln]
      go_wp2_with (at_builtin; go_must (refine wpList_append_two _ rfl _ _ 28 rfl 0 128 iM _ 2 32 Tryz.underlying28 hiM zM0 zM1 zM2 rfl (by decide) _ _ _ rfl (HROW.out.1.alloc _) ⟨wr.heap.size, 0, none⟩ 1 [.string ⟨t.1.toArray⟩, .string ⟨t.2.toArray⟩] rfl rfl (news_at rfl) (by simp [Value.oneCell']) (by unfold maxLen; omega) (by omega) (Nat.zero_le _) ?_))
      intro g cap w4 hown hg
      obtain ⟨p1, p2⟩ := put_more (T := []) (B := w.heap.size) (a := t) rfl (by rw [hln]; exact HROW.out) HOLD.out rfl rfl HZ.out (fun _ _ _ _ _ h => h) (by decide) (fun g hg => hg) HSZ.out (by rw [hln]; exact hown) hg
      rw [HS.out, hln] at p1
      have P1 := hide p1
      have P2 := hide (HW.out.trans p2)
      clear p1 p2 hown hg HROW HOLD HW HZ HSZ
      go_wp2_with fail
      go_roundw
      case rel => exact ⟨k + 1, by omega, by go_num, P1, P2⟩
      case measure => simp [intOf]; omega
    · have ek : k = l.length := by omega
      subst ek
      rw [List.take_length] at HV
      go_wp2_with fail
      go_ret
      exact ⟨_, rfl, HV.out, HW.out⟩

end Go.Proofs.YthnjmfkiohgkkaaGreatDoor.Sy

namespace Go.Proofs.YthnjmfkiohgkkaaGreatDoor.Sy
open Go.RowKit

theorem two_new (w : World) (o0 o1 : Obj) : ((w.alloc o0).alloc o1).heap[w.heap.size]? = some o0 ∧ ((w.alloc o0).alloc o1).heap[w.heap.size + 1]? = some o1 := by
  refine ⟨?_, ?_⟩
  · rw [Go.heap_alloc_old _ _ (by simp)]; exact heap_alloc_new w _
  · have := heap_alloc_new (w.alloc o0) o1
    simpa using this

theorem below_set {B : Nat} {w w' : World} (h : Below B w w') {q : Nat} (hq : B ≤ q) (i : Nat) (v : Value) : Below B w (w'.setCell ⟨q, i, none⟩ v) :=
  ⟨h.os, h.tape, h.output, by simpa using h.size, fun k hk => (heap_setCell_other w' ⟨q, i, none⟩ k v (by show k ≠ q; omega)).trans (h.block k hk)⟩

set_option maxRecDepth 100000 in
set_option maxHeartbeats 3200000 in
theorem copy_TermText {Z : Nat → Prop} (a : TermM) (x0 : Value) (w : World) (hx0 : Strs Z w a.args x0) (hl : a.args.length ≤ 1000000000) :
    Calls Tryz.prog 201 #[.agg #[.int .i64 a.coef, .string ⟨a.pred.toArray⟩, x0, .int .i64 a.value]] w fun e w' => ∃ v, e = .returned v ∧ vTerm (New w) w' a v ∧ Below w.heap.size w w' := by
  obtain ⟨xa0, xc0, rfl⟩ := rows_form hx0
  have HX0 := hide hx0
  clear hx0
  go_enter Tryz.func201, Tryz.ntmps201
  have B0 : Below w.heap.size w ((w.alloc (.cells #[.int .i64 a.coef, .string ⟨a.pred.toArray⟩, .slice xa0 a.args.length xc0, .int .i64 a.value] 109)).alloc (.cells #[.int .i64 0, .string ⟨#[]⟩, .slice none 0 0, .int .i64 0] 109)) := below_two w _ _
  have G0 : Hid (w.heap.size ≤ w.heap.size) := hide (Nat.le_refl _)
  have G1 : Hid (w.heap.size ≤ w.heap.size + 1) := hide (Nat.le_succ _)
  have q0 : Hid (w.heap.size ≠ w.heap.size + 1) := hide (by omega)
  have q1 : Hid (w.heap.size + 1 ≠ w.heap.size) := hide (by omega)
  have LB0 := hide (two_new w (.cells #[.int .i64 a.coef, .string ⟨a.pred.toArray⟩, .slice xa0 a.args.length xc0, .int .i64 a.value] 109) (.cells #[.int .i64 0, .string ⟨#[]⟩, .slice none 0 0, .int .i64 0] 109)).1
  have LB1 := hide (two_new w (.cells #[.int .i64 a.coef, .string ⟨a.pred.toArray⟩, .slice xa0 a.args.length xc0, .int .i64 a.value] 109) (.cells #[.int .i64 0, .string ⟨#[]⟩, .slice none 0 0, .int .i64 0] 109)).2
  have q2 := hide (Strs.keep HX0.out (Kp.of_below (T := [9]) B0) (by decide))
  clear HX0
  have BW := hide B0
  clear B0
  have C1 := hide (copy_CopyStrings _ _ _ q2.out hl)
  go_wp2_with fail
  refine C1.out.mono ?_
  rintro _ w1 ⟨v1, rfl, hv, hb⟩
  have q3 := hide ((hb.block _ (loc_lt LB0.out)).trans LB0.out)
  clear LB0
  have q4 := hide ((hb.block _ (loc_lt LB1.out)).trans LB1.out)
  clear LB1
  have q5 := hide (Strs.keep q2.out (Kp.of_below (T := [9]) hb) (by decide))
  clear q2
  have q6 := hv
  clear hv
  obtain ⟨q7, q8, rfl⟩ := rows_form q6
  have q9 := hide (Strs.mono q6 fun g hg => Nat.le_trans BW.out.size hg)
  clear q6
  have BW1 := hide (BW.out.trans (hb.mono BW.out.size))
  clear hb C1 BW
  obtain ⟨qa, qb, qc, qd, y2⟩ := row4 q3.out
  obtain ⟨qe, qf, qg, qh, y3⟩ := row4 q4.out
  have x4 := q0.out
  have x5 := q1.out
  have qi := hide (Strs.keep q5.out (Kp.setLoc (T := [9]) (i := 2) (v := .slice q7 a.args.length q8) q3.out (by decide)) (by decide))
  clear q5
  have qj := hide (Strs.keep q9.out (Kp.setLoc (T := [9]) (i := 2) (v := .slice q7 a.args.length q8) q3.out (by decide)) (by decide))
  clear q9
  have qk := hide (loc_set (i := 2) (v := .slice q7 a.args.length q8) q3.out)
  have ql := hide (loc_other (p := ⟨w.heap.size, 2, none⟩) (v := .slice q7 a.args.length q8) q4.out q1.out)
  clear q3 q4
  have BW6 := hide (below_set BW1.out G0.out 2 (.slice q7 a.args.length q8))
  clear BW1
  go_wp2_with fail
  have hz := (And.intro qa (And.intro qb (And.intro qc (And.intro qd (And.intro y2 (And.intro qe (And.intro qf (And.intro qg (And.intro qh (And.intro y3 (And.intro x4 x5)))))))))))
  simp [bodyPost, results, Tryz.results201, go_sem, hz]
  have qm := hide (Strs.keep qi.out (Kp.setLoc (T := [9]) (i := 0) (v := .int .i64 a.coef) ql.out (by decide)) (by decide))
  clear qi
  have qn := hide (Strs.keep qj.out (Kp.setLoc (T := [9]) (i := 0) (v := .int .i64 a.coef) ql.out (by decide)) (by decide))
  clear qj
  have qo := hide (loc_other (p := ⟨w.heap.size + 1, 0, none⟩) (v := .int .i64 a.coef) qk.out q0.out)
  have qp := hide (loc_set (i := 0) (v := .int .i64 a.coef) ql.out)
  clear qk ql
  have BW7 := hide (below_set BW6.out G1.out 0 (.int .i64 a.coef))
  clear BW6
  have qq := hide (Strs.keep qm.out (Kp.setLoc (T := [9]) (i := 1) (v := .string ⟨a.pred.toArray⟩) qp.out (by decide)) (by decide))
  clear qm
  have qr := hide (Strs.keep qn.out (Kp.setLoc (T := [9]) (i := 1) (v := .string ⟨a.pred.toArray⟩) qp.out (by decide)) (by decide))
  clear qn
  have qs := hide (loc_other (p := ⟨w.heap.size + 1, 1, none⟩) (v := .string ⟨a.pred.toArray⟩) qo.out q0.out)
  have qt := hide (loc_set (i := 1) (v := .string ⟨a.pred.toArray⟩) qp.out)
  clear qo qp
  have BW8 := hide (below_set BW7.out G1.out 1 (.string ⟨a.pred.toArray⟩))
  clear BW7
  have qu := hide (Strs.keep qq.out (Kp.setLoc (T := [9]) (i := 2) (v := .slice q7 a.args.length q8) qt.out (by decide)) (by decide))
  clear qq
  have qv := hide (Strs.keep qr.out (Kp.setLoc (T := [9]) (i := 2) (v := .slice q7 a.args.length q8) qt.out (by decide)) (by decide))
  clear qr
  have qw := hide (loc_other (p := ⟨w.heap.size + 1, 2, none⟩) (v := .slice q7 a.args.length q8) qs.out q0.out)
  have qx := hide (loc_set (i := 2) (v := .slice q7 a.args.length q8) qt.out)
  clear qs qt
  have BW9 := hide (below_set BW8.out G1.out 2 (.slice q7 a.args.length q8))
  clear BW8
  have qy := hide (Strs.keep qu.out (Kp.setLoc (T := [9]) (i := 3) (v := .int .i64 a.value) qx.out (by decide)) (by decide))
  clear qu
  have qz := hide (Strs.keep qv.out (Kp.setLoc (T := [9]) (i := 3) (v := .int .i64 a.value) qx.out (by decide)) (by decide))
  clear qv
  have qA := hide (loc_other (p := ⟨w.heap.size + 1, 3, none⟩) (v := .int .i64 a.value) qw.out q0.out)
  have qB := hide (loc_set (i := 3) (v := .int .i64 a.value) qx.out)
  clear qw qx
  have BW10 := hide (below_set BW9.out G1.out 3 (.int .i64 a.value))
  clear BW9
  exact ⟨⟨_, rfl, qz.out⟩, BW10.out⟩

set_option maxRecDepth 100000 in
set_option maxHeartbeats 3200000 in
theorem copy_LitText {Z : Nat → Prop} (a : LitM) (x0 : Value) (w : World) (hx0 : Strs Z w a.args x0) (hl : a.args.length ≤ 1000000000) :
    Calls Tryz.prog 109 #[.agg #[.bool a.neg, .string ⟨a.pred.toArray⟩, x0, .bool a.hasValue, .int .i64 a.value]] w fun e w' => ∃ v, e = .returned v ∧ vLit (New w) w' a v ∧ Below w.heap.size w w' := by
  obtain ⟨xa0, xc0, rfl⟩ := rows_form hx0
  have HX0 := hide hx0
  clear hx0
  go_enter Tryz.func109, Tryz.ntmps109
  have B0 : Below w.heap.size w ((w.alloc (.cells #[.bool a.neg, .string ⟨a.pred.toArray⟩, .slice xa0 a.args.length xc0, .bool a.hasValue, .int .i64 a.value] 98)).alloc (.cells #[.bool false, .string ⟨#[]⟩, .slice none 0 0, .bool false, .int .i64 0] 98)) := below_two w _ _
  have G0 : Hid (w.heap.size ≤ w.heap.size) := hide (Nat.le_refl _)
  have G1 : Hid (w.heap.size ≤ w.heap.size + 1) := hide (Nat.le_succ _)
  have q0 : Hid (w.heap.size ≠ w.heap.size + 1) := hide (by omega)
  have q1 : Hid (w.heap.size + 1 ≠ w.heap.size) := hide (by omega)
  have LB0 := hide (two_new w (.cells #[.bool a.neg, .string ⟨a.pred.toArray⟩, .slice xa0 a.args.length xc0, .bool a.hasValue, .int .i64 a.value] 98) (.cells #[.bool false, .string ⟨#[]⟩, .slice none 0 0, .bool false, .int .i64 0] 98)).1
  have LB1 := hide (two_new w (.cells #[.bool a.neg, .string ⟨a.pred.toArray⟩, .slice xa0 a.args.length xc0, .bool a.hasValue, .int .i64 a.value] 98) (.cells #[.bool false, .string ⟨#[]⟩, .slice none 0 0, .bool false, .int .i64 0] 98)).2
  have q2 := hide (Strs.keep HX0.out (Kp.of_below (T := [9]) B0) (by decide))
  clear HX0
  have BW := hide B0
  clear B0
  have C11 := hide (copy_CopyStrings _ _ _ q2.out hl)
  go_wp2_with fail
  refine C11.out.mono ?_
  rintro _ w11 ⟨v11, rfl, hv, hb⟩
  have q3 := hide ((hb.block _ (loc_lt LB0.out)).trans LB0.out)
  clear LB0
  have q4 := hide ((hb.block _ (loc_lt LB1.out)).trans LB1.out)
  clear LB1
  have q5 := hide (Strs.keep q2.out (Kp.of_below (T := [9]) hb) (by decide))
  clear q2
  have q6 := hv
  clear hv
  obtain ⟨q7, q8, rfl⟩ := rows_form q6
  have q9 := hide (Strs.mono q6 fun g hg => Nat.le_trans BW.out.size hg)
  clear q6
  have BW11 := hide (BW.out.trans (hb.mono BW.out.size))
  clear hb C11 BW
  obtain ⟨qa, qb, qc, qd, qe, y12⟩ := row5 q3.out
  obtain ⟨qf, qg, qh, qi, qj, y13⟩ := row5 q4.out
  have x14 := q0.out
  have x15 := q1.out
  have qk := hide (Strs.keep q5.out (Kp.setLoc (T := [9]) (i := 2) (v := .slice q7 a.args.length q8) q3.out (by decide)) (by decide))
  clear q5
  have ql := hide (Strs.keep q9.out (Kp.setLoc (T := [9]) (i := 2) (v := .slice q7 a.args.length q8) q3.out (by decide)) (by decide))
  clear q9
  have qm := hide (loc_set (i := 2) (v := .slice q7 a.args.length q8) q3.out)
  have qn := hide (loc_other (p := ⟨w.heap.size, 2, none⟩) (v := .slice q7 a.args.length q8) q4.out q1.out)
  clear q3 q4
  have BW16 := hide (below_set BW11.out G0.out 2 (.slice q7 a.args.length q8))
  clear BW11
  go_wp2_with fail
  have hz := (And.intro qa (And.intro qb (And.intro qc (And.intro qd (And.intro qe (And.intro y12 (And.intro qf (And.intro qg (And.intro qh (And.intro qi (And.intro qj (And.intro y13 (And.intro x14 x15)))))))))))))
  simp [bodyPost, results, Tryz.results109, go_sem, hz]
  have qo := hide (Strs.keep qk.out (Kp.setLoc (T := [9]) (i := 0) (v := .bool a.neg) qn.out (by decide)) (by decide))
  clear qk
  have qp := hide (Strs.keep ql.out (Kp.setLoc (T := [9]) (i := 0) (v := .bool a.neg) qn.out (by decide)) (by decide))
  clear ql
  have qq := hide (loc_other (p := ⟨w.heap.size + 1, 0, none⟩) (v := .bool a.neg) qm.out q0.out)
  have qr := hide (loc_set (i := 0) (v := .bool a.neg) qn.out)
  clear qm qn
  have BW17 := hide (below_set BW16.out G1.out 0 (.bool a.neg))
  clear BW16
  have qs := hide (Strs.keep qo.out (Kp.setLoc (T := [9]) (i := 1) (v := .string ⟨a.pred.toArray⟩) qr.out (by decide)) (by decide))
  clear qo
  have qt := hide (Strs.keep qp.out (Kp.setLoc (T := [9]) (i := 1) (v := .string ⟨a.pred.toArray⟩) qr.out (by decide)) (by decide))
  clear qp
  have qu := hide (loc_other (p := ⟨w.heap.size + 1, 1, none⟩) (v := .string ⟨a.pred.toArray⟩) qq.out q0.out)
  have qv := hide (loc_set (i := 1) (v := .string ⟨a.pred.toArray⟩) qr.out)
  clear qq qr
  have BW18 := hide (below_set BW17.out G1.out 1 (.string ⟨a.pred.toArray⟩))
  clear BW17
  have qw := hide (Strs.keep qs.out (Kp.setLoc (T := [9]) (i := 2) (v := .slice q7 a.args.length q8) qv.out (by decide)) (by decide))
  clear qs
  have qx := hide (Strs.keep qt.out (Kp.setLoc (T := [9]) (i := 2) (v := .slice q7 a.args.length q8) qv.out (by decide)) (by decide))
  clear qt
  have qy := hide (loc_other (p := ⟨w.heap.size + 1, 2, none⟩) (v := .slice q7 a.args.length q8) qu.out q0.out)
  have qz := hide (loc_set (i := 2) (v := .slice q7 a.args.length q8) qv.out)
  clear qu qv
  have BW19 := hide (below_set BW18.out G1.out 2 (.slice q7 a.args.length q8))
  clear BW18
  have qA := hide (Strs.keep qw.out (Kp.setLoc (T := [9]) (i := 3) (v := .bool a.hasValue) qz.out (by decide)) (by decide))
  clear qw
  have qB := hide (Strs.keep qx.out (Kp.setLoc (T := [9]) (i := 3) (v := .bool a.hasValue) qz.out (by decide)) (by decide))
  clear qx
  have qC := hide (loc_other (p := ⟨w.heap.size + 1, 3, none⟩) (v := .bool a.hasValue) qy.out q0.out)
  have qD := hide (loc_set (i := 3) (v := .bool a.hasValue) qz.out)
  clear qy qz
  have BW20 := hide (below_set BW19.out G1.out 3 (.bool a.hasValue))
  clear BW19
  have qE := hide (Strs.keep qA.out (Kp.setLoc (T := [9]) (i := 4) (v := .int .i64 a.value) qD.out (by decide)) (by decide))
  clear qA
  have qF := hide (Strs.keep qB.out (Kp.setLoc (T := [9]) (i := 4) (v := .int .i64 a.value) qD.out (by decide)) (by decide))
  clear qB
  have qG := hide (loc_other (p := ⟨w.heap.size + 1, 4, none⟩) (v := .int .i64 a.value) qC.out q0.out)
  have qH := hide (loc_set (i := 4) (v := .int .i64 a.value) qD.out)
  clear qC qD
  have BW21 := hide (below_set BW20.out G1.out 4 (.int .i64 a.value))
  clear BW20
  exact ⟨⟨_, rfl, qF.out⟩, BW21.out⟩

set_option maxRecDepth 100000 in
set_option maxHeartbeats 3200000 in
theorem copy_Pred {Z : Nat → Prop} (a : PredM) (x0 : Value) (x1 : Value) (w : World) (hx0 : Strs Z w a.kinds x0) (hx1 : Moneys Z w a.values x1) (hl : a.kinds.length ≤ 1000000000) (hm : a.values.length ≤ 1000000000) :
    Calls Tryz.prog 63 #[.agg #[.string ⟨a.name.toArray⟩, .int .i64 a.sort, x0, x1]] w fun e w' => ∃ v, e = .returned v ∧ vPred (New w) w' a v ∧ Below w.heap.size w w' := by
  obtain ⟨xa0, xc0, rfl⟩ := rows_form hx0
  have HX0 := hide hx0
  clear hx0
  obtain ⟨xa1, xc1, rfl⟩ := rows_form hx1
  have HX1 := hide hx1
  clear hx1
  go_enter Tryz.func63, Tryz.ntmps63
  have B0 : Below w.heap.size w ((w.alloc (.cells #[.string ⟨a.name.toArray⟩, .int .i64 a.sort, .slice xa0 a.kinds.length xc0, .slice xa1 a.values.length xc1] 92)).alloc (.cells #[.string ⟨#[]⟩, .int .i64 0, .slice none 0 0, .slice none 0 0] 92)) := below_two w _ _
  have G0 : Hid (w.heap.size ≤ w.heap.size) := hide (Nat.le_refl _)
  have G1 : Hid (w.heap.size ≤ w.heap.size + 1) := hide (Nat.le_succ _)
  have q0 : Hid (w.heap.size ≠ w.heap.size + 1) := hide (by omega)
  have q1 : Hid (w.heap.size + 1 ≠ w.heap.size) := hide (by omega)
  have LB0 := hide (two_new w (.cells #[.string ⟨a.name.toArray⟩, .int .i64 a.sort, .slice xa0 a.kinds.length xc0, .slice xa1 a.values.length xc1] 92) (.cells #[.string ⟨#[]⟩, .int .i64 0, .slice none 0 0, .slice none 0 0] 92)).1
  have LB1 := hide (two_new w (.cells #[.string ⟨a.name.toArray⟩, .int .i64 a.sort, .slice xa0 a.kinds.length xc0, .slice xa1 a.values.length xc1] 92) (.cells #[.string ⟨#[]⟩, .int .i64 0, .slice none 0 0, .slice none 0 0] 92)).2
  have q2 := hide (Strs.keep HX0.out (Kp.of_below (T := [9]) B0) (by decide))
  clear HX0
  have q3 := hide (Moneys.keep HX1.out (Kp.of_below (T := [93]) B0) (by decide))
  clear HX1
  have BW := hide B0
  clear B0
  have C22 := hide (copy_CopyStrings _ _ _ q2.out hl)
  go_wp2_with fail
  refine C22.out.mono ?_
  rintro _ w22 ⟨v22, rfl, hv, hb⟩
  have q4 := hide ((hb.block _ (loc_lt LB0.out)).trans LB0.out)
  clear LB0
  have q5 := hide ((hb.block _ (loc_lt LB1.out)).trans LB1.out)
  clear LB1
  have q6 := hide (Strs.keep q2.out (Kp.of_below (T := [9]) hb) (by decide))
  clear q2
  have q7 := hide (Moneys.keep q3.out (Kp.of_below (T := [93]) hb) (by decide))
  clear q3
  have q8 := hv
  clear hv
  obtain ⟨q9, qa, rfl⟩ := rows_form q8
  have qb := hide (Strs.mono q8 fun g hg => Nat.le_trans BW.out.size hg)
  clear q8
  have BW22 := hide (BW.out.trans (hb.mono BW.out.size))
  clear hb C22 BW
  obtain ⟨qc, qd, qe, qf, y23⟩ := row4 q4.out
  obtain ⟨qg, qh, qi, qj, y24⟩ := row4 q5.out
  have x25 := q0.out
  have x26 := q1.out
  have qk := hide (Strs.keep q6.out (Kp.setLoc (T := [9]) (i := 2) (v := .slice q9 a.kinds.length qa) q4.out (by decide)) (by decide))
  clear q6
  have ql := hide (Moneys.keep q7.out (Kp.setLoc (T := [93]) (i := 2) (v := .slice q9 a.kinds.length qa) q4.out (by decide)) (by decide))
  clear q7
  have qm := hide (Strs.keep qb.out (Kp.setLoc (T := [9]) (i := 2) (v := .slice q9 a.kinds.length qa) q4.out (by decide)) (by decide))
  clear qb
  have qn := hide (loc_set (i := 2) (v := .slice q9 a.kinds.length qa) q4.out)
  have qo := hide (loc_other (p := ⟨w.heap.size, 2, none⟩) (v := .slice q9 a.kinds.length qa) q5.out q1.out)
  clear q4 q5
  have BW27 := hide (below_set BW22.out G0.out 2 (.slice q9 a.kinds.length qa))
  clear BW22
  have C28 := hide (copy_CopyMoney _ _ _ ql.out hm)
  go_wp2_with fail
  refine C28.out.mono ?_
  rintro _ w28 ⟨v28, rfl, hv, hb⟩
  clear qc qd qe qf y23 qg qh qi qj y24 x25 x26
  have qp := hide ((hb.block _ (loc_lt qn.out)).trans qn.out)
  clear qn
  have qq := hide ((hb.block _ (loc_lt qo.out)).trans qo.out)
  clear qo
  have qr := hide (Strs.keep qk.out (Kp.of_below (T := [9]) hb) (by decide))
  clear qk
  have qs := hide (Moneys.keep ql.out (Kp.of_below (T := [93]) hb) (by decide))
  clear ql
  have qt := hide (Strs.keep qm.out (Kp.of_below (T := [9]) hb) (by decide))
  clear qm
  have qu := hv
  clear hv
  obtain ⟨qv, qw, rfl⟩ := rows_form qu
  have qx := hide (Moneys.mono qu fun g hg => Nat.le_trans BW27.out.size hg)
  clear qu
  have BW28 := hide (BW27.out.trans (hb.mono BW27.out.size))
  clear hb C28 BW27
  obtain ⟨qy, qz, qA, qB, y29⟩ := row4 qp.out
  obtain ⟨qC, qD, qE, qF, y30⟩ := row4 qq.out
  have x31 := q0.out
  have x32 := q1.out
  have qG := hide (Strs.keep qr.out (Kp.setLoc (T := [9]) (i := 3) (v := .slice qv a.values.length qw) qp.out (by decide)) (by decide))
  clear qr
  have qH := hide (Moneys.keep qs.out (Kp.setLoc (T := [93]) (i := 3) (v := .slice qv a.values.length qw) qp.out (by decide)) (by decide))
  clear qs
  have qI := hide (Strs.keep qt.out (Kp.setLoc (T := [9]) (i := 3) (v := .slice qv a.values.length qw) qp.out (by decide)) (by decide))
  clear qt
  have qJ := hide (Moneys.keep qx.out (Kp.setLoc (T := [93]) (i := 3) (v := .slice qv a.values.length qw) qp.out (by decide)) (by decide))
  clear qx
  have qK := hide (loc_set (i := 3) (v := .slice qv a.values.length qw) qp.out)
  have qL := hide (loc_other (p := ⟨w.heap.size, 3, none⟩) (v := .slice qv a.values.length qw) qq.out q1.out)
  clear qp qq
  have BW33 := hide (below_set BW28.out G0.out 3 (.slice qv a.values.length qw))
  clear BW28
  go_wp2_with fail
  have hz := (And.intro qy (And.intro qz (And.intro qA (And.intro qB (And.intro y29 (And.intro qC (And.intro qD (And.intro qE (And.intro qF (And.intro y30 (And.intro x31 x32)))))))))))
  simp [bodyPost, results, Tryz.results63, go_sem, hz]
  have qM := hide (Strs.keep qG.out (Kp.setLoc (T := [9]) (i := 0) (v := .string ⟨a.name.toArray⟩) qL.out (by decide)) (by decide))
  clear qG
  have qN := hide (Moneys.keep qH.out (Kp.setLoc (T := [93]) (i := 0) (v := .string ⟨a.name.toArray⟩) qL.out (by decide)) (by decide))
  clear qH
  have qO := hide (Strs.keep qI.out (Kp.setLoc (T := [9]) (i := 0) (v := .string ⟨a.name.toArray⟩) qL.out (by decide)) (by decide))
  clear qI
  have qP := hide (Moneys.keep qJ.out (Kp.setLoc (T := [93]) (i := 0) (v := .string ⟨a.name.toArray⟩) qL.out (by decide)) (by decide))
  clear qJ
  have qQ := hide (loc_other (p := ⟨w.heap.size + 1, 0, none⟩) (v := .string ⟨a.name.toArray⟩) qK.out q0.out)
  have qR := hide (loc_set (i := 0) (v := .string ⟨a.name.toArray⟩) qL.out)
  clear qK qL
  have BW34 := hide (below_set BW33.out G1.out 0 (.string ⟨a.name.toArray⟩))
  clear BW33
  have qS := hide (Strs.keep qM.out (Kp.setLoc (T := [9]) (i := 1) (v := .int .i64 a.sort) qR.out (by decide)) (by decide))
  clear qM
  have qT := hide (Moneys.keep qN.out (Kp.setLoc (T := [93]) (i := 1) (v := .int .i64 a.sort) qR.out (by decide)) (by decide))
  clear qN
  have qU := hide (Strs.keep qO.out (Kp.setLoc (T := [9]) (i := 1) (v := .int .i64 a.sort) qR.out (by decide)) (by decide))
  clear qO
  have qV := hide (Moneys.keep qP.out (Kp.setLoc (T := [93]) (i := 1) (v := .int .i64 a.sort) qR.out (by decide)) (by decide))
  clear qP
  have qW := hide (loc_other (p := ⟨w.heap.size + 1, 1, none⟩) (v := .int .i64 a.sort) qQ.out q0.out)
  have qX := hide (loc_set (i := 1) (v := .int .i64 a.sort) qR.out)
  clear qQ qR
  have BW35 := hide (below_set BW34.out G1.out 1 (.int .i64 a.sort))
  clear BW34
  have qY := hide (Strs.keep qS.out (Kp.setLoc (T := [9]) (i := 2) (v := .slice q9 a.kinds.length qa) qX.out (by decide)) (by decide))
  clear qS
  have qZ := hide (Moneys.keep qT.out (Kp.setLoc (T := [93]) (i := 2) (v := .slice q9 a.kinds.length qa) qX.out (by decide)) (by decide))
  clear qT
  have q10 := hide (Strs.keep qU.out (Kp.setLoc (T := [9]) (i := 2) (v := .slice q9 a.kinds.length qa) qX.out (by decide)) (by decide))
  clear qU
  have q11 := hide (Moneys.keep qV.out (Kp.setLoc (T := [93]) (i := 2) (v := .slice q9 a.kinds.length qa) qX.out (by decide)) (by decide))
  clear qV
  have q12 := hide (loc_other (p := ⟨w.heap.size + 1, 2, none⟩) (v := .slice q9 a.kinds.length qa) qW.out q0.out)
  have q13 := hide (loc_set (i := 2) (v := .slice q9 a.kinds.length qa) qX.out)
  clear qW qX
  have BW36 := hide (below_set BW35.out G1.out 2 (.slice q9 a.kinds.length qa))
  clear BW35
  have q14 := hide (Strs.keep qY.out (Kp.setLoc (T := [9]) (i := 3) (v := .slice qv a.values.length qw) q13.out (by decide)) (by decide))
  clear qY
  have q15 := hide (Moneys.keep qZ.out (Kp.setLoc (T := [93]) (i := 3) (v := .slice qv a.values.length qw) q13.out (by decide)) (by decide))
  clear qZ
  have q16 := hide (Strs.keep q10.out (Kp.setLoc (T := [9]) (i := 3) (v := .slice qv a.values.length qw) q13.out (by decide)) (by decide))
  clear q10
  have q17 := hide (Moneys.keep q11.out (Kp.setLoc (T := [93]) (i := 3) (v := .slice qv a.values.length qw) q13.out (by decide)) (by decide))
  clear q11
  have q18 := hide (loc_other (p := ⟨w.heap.size + 1, 3, none⟩) (v := .slice qv a.values.length qw) q12.out q0.out)
  have q19 := hide (loc_set (i := 3) (v := .slice qv a.values.length qw) q13.out)
  clear q12 q13
  have BW37 := hide (below_set BW36.out G1.out 3 (.slice qv a.values.length qw))
  clear BW36
  exact ⟨⟨_, _, rfl, q16.out, q17.out⟩, BW37.out⟩

set_option maxRecDepth 100000 in
set_option maxHeartbeats 3200000 in
theorem copy_Total {Z : Nat → Prop} (a : TotalM) (x0 : Value) (w : World) (hx0 : Strs Z w a.preds x0) (hl : a.preds.length ≤ 1000000000) :
    Calls Tryz.prog 65 #[.agg #[.string ⟨a.name.toArray⟩, .string ⟨a.kind.toArray⟩, x0, .bool a.hasCap, .int .i64 a.cap]] w fun e w' => ∃ v, e = .returned v ∧ vTotal (New w) w' a v ∧ Below w.heap.size w w' := by
  obtain ⟨xa0, xc0, rfl⟩ := rows_form hx0
  have HX0 := hide hx0
  clear hx0
  go_enter Tryz.func65, Tryz.ntmps65
  have B0 : Below w.heap.size w ((w.alloc (.cells #[.string ⟨a.name.toArray⟩, .string ⟨a.kind.toArray⟩, .slice xa0 a.preds.length xc0, .bool a.hasCap, .int .i64 a.cap] 111)).alloc (.cells #[.string ⟨#[]⟩, .string ⟨#[]⟩, .slice none 0 0, .bool false, .int .i64 0] 111)) := below_two w _ _
  have G0 : Hid (w.heap.size ≤ w.heap.size) := hide (Nat.le_refl _)
  have G1 : Hid (w.heap.size ≤ w.heap.size + 1) := hide (Nat.le_succ _)
  have q0 : Hid (w.heap.size ≠ w.heap.size + 1) := hide (by omega)
  have q1 : Hid (w.heap.size + 1 ≠ w.heap.size) := hide (by omega)
  have LB0 := hide (two_new w (.cells #[.string ⟨a.name.toArray⟩, .string ⟨a.kind.toArray⟩, .slice xa0 a.preds.length xc0, .bool a.hasCap, .int .i64 a.cap] 111) (.cells #[.string ⟨#[]⟩, .string ⟨#[]⟩, .slice none 0 0, .bool false, .int .i64 0] 111)).1
  have LB1 := hide (two_new w (.cells #[.string ⟨a.name.toArray⟩, .string ⟨a.kind.toArray⟩, .slice xa0 a.preds.length xc0, .bool a.hasCap, .int .i64 a.cap] 111) (.cells #[.string ⟨#[]⟩, .string ⟨#[]⟩, .slice none 0 0, .bool false, .int .i64 0] 111)).2
  have q2 := hide (Strs.keep HX0.out (Kp.of_below (T := [9]) B0) (by decide))
  clear HX0
  have BW := hide B0
  clear B0
  have C38 := hide (copy_CopyStrings _ _ _ q2.out hl)
  go_wp2_with fail
  refine C38.out.mono ?_
  rintro _ w38 ⟨v38, rfl, hv, hb⟩
  have q3 := hide ((hb.block _ (loc_lt LB0.out)).trans LB0.out)
  clear LB0
  have q4 := hide ((hb.block _ (loc_lt LB1.out)).trans LB1.out)
  clear LB1
  have q5 := hide (Strs.keep q2.out (Kp.of_below (T := [9]) hb) (by decide))
  clear q2
  have q6 := hv
  clear hv
  obtain ⟨q7, q8, rfl⟩ := rows_form q6
  have q9 := hide (Strs.mono q6 fun g hg => Nat.le_trans BW.out.size hg)
  clear q6
  have BW38 := hide (BW.out.trans (hb.mono BW.out.size))
  clear hb C38 BW
  obtain ⟨qa, qb, qc, qd, qe, y39⟩ := row5 q3.out
  obtain ⟨qf, qg, qh, qi, qj, y40⟩ := row5 q4.out
  have x41 := q0.out
  have x42 := q1.out
  have qk := hide (Strs.keep q5.out (Kp.setLoc (T := [9]) (i := 2) (v := .slice q7 a.preds.length q8) q3.out (by decide)) (by decide))
  clear q5
  have ql := hide (Strs.keep q9.out (Kp.setLoc (T := [9]) (i := 2) (v := .slice q7 a.preds.length q8) q3.out (by decide)) (by decide))
  clear q9
  have qm := hide (loc_set (i := 2) (v := .slice q7 a.preds.length q8) q3.out)
  have qn := hide (loc_other (p := ⟨w.heap.size, 2, none⟩) (v := .slice q7 a.preds.length q8) q4.out q1.out)
  clear q3 q4
  have BW43 := hide (below_set BW38.out G0.out 2 (.slice q7 a.preds.length q8))
  clear BW38
  go_wp2_with fail
  have hz := (And.intro qa (And.intro qb (And.intro qc (And.intro qd (And.intro qe (And.intro y39 (And.intro qf (And.intro qg (And.intro qh (And.intro qi (And.intro qj (And.intro y40 (And.intro x41 x42)))))))))))))
  simp [bodyPost, results, Tryz.results65, go_sem, hz]
  have qo := hide (Strs.keep qk.out (Kp.setLoc (T := [9]) (i := 0) (v := .string ⟨a.name.toArray⟩) qn.out (by decide)) (by decide))
  clear qk
  have qp := hide (Strs.keep ql.out (Kp.setLoc (T := [9]) (i := 0) (v := .string ⟨a.name.toArray⟩) qn.out (by decide)) (by decide))
  clear ql
  have qq := hide (loc_other (p := ⟨w.heap.size + 1, 0, none⟩) (v := .string ⟨a.name.toArray⟩) qm.out q0.out)
  have qr := hide (loc_set (i := 0) (v := .string ⟨a.name.toArray⟩) qn.out)
  clear qm qn
  have BW44 := hide (below_set BW43.out G1.out 0 (.string ⟨a.name.toArray⟩))
  clear BW43
  have qs := hide (Strs.keep qo.out (Kp.setLoc (T := [9]) (i := 1) (v := .string ⟨a.kind.toArray⟩) qr.out (by decide)) (by decide))
  clear qo
  have qt := hide (Strs.keep qp.out (Kp.setLoc (T := [9]) (i := 1) (v := .string ⟨a.kind.toArray⟩) qr.out (by decide)) (by decide))
  clear qp
  have qu := hide (loc_other (p := ⟨w.heap.size + 1, 1, none⟩) (v := .string ⟨a.kind.toArray⟩) qq.out q0.out)
  have qv := hide (loc_set (i := 1) (v := .string ⟨a.kind.toArray⟩) qr.out)
  clear qq qr
  have BW45 := hide (below_set BW44.out G1.out 1 (.string ⟨a.kind.toArray⟩))
  clear BW44
  have qw := hide (Strs.keep qs.out (Kp.setLoc (T := [9]) (i := 2) (v := .slice q7 a.preds.length q8) qv.out (by decide)) (by decide))
  clear qs
  have qx := hide (Strs.keep qt.out (Kp.setLoc (T := [9]) (i := 2) (v := .slice q7 a.preds.length q8) qv.out (by decide)) (by decide))
  clear qt
  have qy := hide (loc_other (p := ⟨w.heap.size + 1, 2, none⟩) (v := .slice q7 a.preds.length q8) qu.out q0.out)
  have qz := hide (loc_set (i := 2) (v := .slice q7 a.preds.length q8) qv.out)
  clear qu qv
  have BW46 := hide (below_set BW45.out G1.out 2 (.slice q7 a.preds.length q8))
  clear BW45
  have qA := hide (Strs.keep qw.out (Kp.setLoc (T := [9]) (i := 3) (v := .bool a.hasCap) qz.out (by decide)) (by decide))
  clear qw
  have qB := hide (Strs.keep qx.out (Kp.setLoc (T := [9]) (i := 3) (v := .bool a.hasCap) qz.out (by decide)) (by decide))
  clear qx
  have qC := hide (loc_other (p := ⟨w.heap.size + 1, 3, none⟩) (v := .bool a.hasCap) qy.out q0.out)
  have qD := hide (loc_set (i := 3) (v := .bool a.hasCap) qz.out)
  clear qy qz
  have BW47 := hide (below_set BW46.out G1.out 3 (.bool a.hasCap))
  clear BW46
  have qE := hide (Strs.keep qA.out (Kp.setLoc (T := [9]) (i := 4) (v := .int .i64 a.cap) qD.out (by decide)) (by decide))
  clear qA
  have qF := hide (Strs.keep qB.out (Kp.setLoc (T := [9]) (i := 4) (v := .int .i64 a.cap) qD.out (by decide)) (by decide))
  clear qB
  have qG := hide (loc_other (p := ⟨w.heap.size + 1, 4, none⟩) (v := .int .i64 a.cap) qC.out q0.out)
  have qH := hide (loc_set (i := 4) (v := .int .i64 a.cap) qD.out)
  clear qC qD
  have BW48 := hide (below_set BW47.out G1.out 4 (.int .i64 a.cap))
  clear BW47
  exact ⟨⟨_, rfl, qF.out⟩, BW48.out⟩

set_option maxRecDepth 100000 in
set_option maxHeartbeats 3200000 in
theorem copy_CopyTermTexts {Z : Nat → Prop} (l : List TermM) (va : Value) (w : World) (ha : Rows Z 109 4 (cTerm Z) w l va) (hl : l.length ≤ 1000000000) (hi : ∀ a, a ∈ l → a.args.length ≤ 1000000000) :
    Calls Tryz.prog 183 #[va] w fun e w' => ∃ v, e = .returned v ∧ Rows (New w) 109 4 (cTerm (New w)) w' l v ∧ Below w.heap.size w w' := by
  obtain ⟨iM, hiM, zM0, zM1, zM2⟩ := info_parts' info_term
  have HA := hide ha
  obtain ⟨aa, ca, rfl⟩ := rows_form ha
  clear ha
  go_enter Tryz.func183, Tryz.ntmps183
  go_wp2_with fail
  go_loopw [3, 4] (fun x z wr => ∃ k : Nat, k ≤ l.length ∧ z = .int .i64 k ∧ Hid (Rows (New w) 109 4 (cTerm (New w)) wr (l.take k) x) ∧ Hid (Below w.heap.size w wr)) (fun _ z _ => l.length - (intOf z).toNat)
  case atStart => exact ⟨0, by omega, rfl, hide (Rows.nil _ _ _ _ _), hide (Below.refl _ w)⟩
  case round =>
    obtain ⟨k, hk, rfl, HV, HW⟩ := hrel
    by_cases hlt : k < l.length
    · obtain ⟨t, ht⟩ : ∃ t, l[k]? = some t := ⟨l[k], by simp [hlt]⟩
      obtain ⟨ga, xa, ya, e1, _, ⟨av0, rfl, hs0⟩, h2⟩ := (HA.out.keep (T := [9, 109]) (Kp.of_below HW.out) (by decide) (fun _ _ h => h.keep (T := [9, 109]) (Kp.of_below HW.out) (by decide))).at ht
      simp only [Value.slice.injEq] at e1
      obtain ⟨rfl, _, rfl⟩ := e1
      have a0 : wr.cell? ⟨ga, k * 4, none⟩ = some (.int .i64 t.coef) := by have := h2 0 _ rfl; simpa using this
      have a1 : wr.cell? ⟨ga, k * 4 + 1, none⟩ = some (.string ⟨t.pred.toArray⟩) := by have := h2 1 _ rfl; simpa using this
      have a2 : wr.cell? ⟨ga, k * 4 + 2, none⟩ = some (av0) := by have := h2 2 _ rfl; simpa using this
      have a3 : wr.cell? ⟨ga, k * 4 + 3, none⟩ = some (.int .i64 t.value) := by have := h2 3 _ rfl; simpa using this
      have hit := hi t (List.mem_of_getElem? ht)
      have HS := hide (take_snoc ht)
      obtain ⟨xs, hrow, hold⟩ := HV.out
      have hln : (l.take k).length = k := by simp; omega
      obtain ⟨ta, tc, rfl⟩ := slice_form hrow.1
      rw [hln] at hrow
      have HROW := hide hrow
      have HOLD := hide hold
      have C := hide (copy_TermText t av0 wr hs0 hit)
      clear h2 ht hrow hold HV hit hs0
      rw [hln]
      go_wp2_with fail
      refine C.out.mono ?_
      rintro _ w2 ⟨v2, rfl, ⟨u0, rfl, hv0⟩, hb⟩
      obtain ⟨p0, r0, rfl⟩ := rows_form hv0
      have HV0 := hide (Strs.mono hv0 fun g hg => Nat.le_trans HW.out.size hg)
      have HROW2 := hide (HROW.out.keep (Kp.of_below (T := [109]) hb) (by decide))
      have HC : Hid (∀ w0 w' b ys, Kp [9] (New w) w0 w' → cTerm (New w) w0 b ys → cTerm (New w) w' b ys) := hide (fun _ _ _ _ hk h => h.keep hk (by decide))
      have HOLD2 : Hid (∀ i b, (l.take k)[i]? = some b → cTerm (New w) w2 b ((xs.drop (i * 4)).take 4)) := hide fun i b hi => HC.out _ _ _ _ (Kp.of_below hb) (HOLD.out i b hi)
      have HW2 := hide (HW.out.trans (hb.mono HW.out.size))
      have HZ : Hid (∀ g, w2.heap.size ≤ g → New w g) := hide fun g hg => Nat.le_trans HW2.out.size hg
      have HSZ := hide HW2.out.size
      clear hb hv0 HROW HOLD HW C
      go_wp2_with (at_builtin; go_must (refine wpList_append_two _ rfl _ _ 102 rfl 0 109 iM _ 4 56 Tryz.underlying102 hiM zM0 zM1 zM2 rfl (by decide) _ _ _ rfl (HROW2.out.1.alloc _) ⟨w2.heap.size, 0, none⟩ 1 [.int .i64 t.coef, .string ⟨t.pred.toArray⟩, .slice p0 t.args.length r0, .int .i64 t.value] rfl rfl (news_at rfl) (by simp [Value.oneCell']) (by unfold maxLen; omega) (by omega) (Nat.zero_le _) ?_))
      intro g cap w4 hown hg
      obtain ⟨p1, p2⟩ := put_more (T := [9]) (B := w.heap.size) (a := t) rfl (by rw [hln]; exact HROW2.out) HOLD2.out ⟨_, rfl, HV0.out⟩ rfl HZ.out HC.out (by decide) (fun g hg => hg) HSZ.out (by rw [hln]; exact hown) hg
      rw [HS.out, hln] at p1
      have P1 := hide p1
      have P2 := hide (HW2.out.trans p2)
      clear p1 p2 hown hg HROW2 HOLD2 HW2 HZ HSZ HC
      go_wp2_with fail
      go_roundw
      case rel => exact ⟨k + 1, by omega, by go_num, P1, P2⟩
      case measure => simp [intOf]; omega
    · have ek : k = l.length := by omega
      subst ek
      rw [List.take_length] at HV
      go_wp2_with fail
      go_ret
      exact ⟨_, rfl, HV.out, HW.out⟩

set_option maxRecDepth 100000 in
set_option maxHeartbeats 3200000 in
theorem copy_CopyPreds {Z : Nat → Prop} (l : List PredM) (va : Value) (w : World) (ha : Rows Z 92 4 (cPred Z) w l va) (hl : l.length ≤ 1000000000) (hi : ∀ a, a ∈ l → a.kinds.length ≤ 1000000000 ∧ a.values.length ≤ 1000000000) :
    Calls Tryz.prog 39 #[va] w fun e w' => ∃ v, e = .returned v ∧ Rows (New w) 92 4 (cPred (New w)) w' l v ∧ Below w.heap.size w w' := by
  obtain ⟨iM, hiM, zM0, zM1, zM2⟩ := info_parts' info_pred
  have HA := hide ha
  obtain ⟨aa, ca, rfl⟩ := rows_form ha
  clear ha
  go_enter Tryz.func39, Tryz.ntmps39
  go_wp2_with fail
  go_loopw [3, 4] (fun x z wr => ∃ k : Nat, k ≤ l.length ∧ z = .int .i64 k ∧ Hid (Rows (New w) 92 4 (cPred (New w)) wr (l.take k) x) ∧ Hid (Below w.heap.size w wr)) (fun _ z _ => l.length - (intOf z).toNat)
  case atStart => exact ⟨0, by omega, rfl, hide (Rows.nil _ _ _ _ _), hide (Below.refl _ w)⟩
  case round =>
    obtain ⟨k, hk, rfl, HV, HW⟩ := hrel
    by_cases hlt : k < l.length
    · obtain ⟨t, ht⟩ : ∃ t, l[k]? = some t := ⟨l[k], by simp [hlt]⟩
      obtain ⟨ga, xa, ya, e1, _, ⟨av0, av1, rfl, hs0, hs1⟩, h2⟩ := (HA.out.keep (T := [92]) (Kp.of_below HW.out) (by decide) (fun _ _ h => h.keep (Kp.of_below HW.out))).at ht
      simp only [Value.slice.injEq] at e1
      obtain ⟨rfl, _, rfl⟩ := e1
      have a0 : wr.cell? ⟨ga, k * 4, none⟩ = some (.string ⟨t.name.toArray⟩) := by have := h2 0 _ rfl; simpa using this
      have a1 : wr.cell? ⟨ga, k * 4 + 1, none⟩ = some (.int .i64 t.sort) := by have := h2 1 _ rfl; simpa using this
      have a2 : wr.cell? ⟨ga, k * 4 + 2, none⟩ = some (av0) := by have := h2 2 _ rfl; simpa using this
      have a3 : wr.cell? ⟨ga, k * 4 + 3, none⟩ = some (av1) := by have := h2 3 _ rfl; simpa using this
      have hit := hi t (List.mem_of_getElem? ht)
      have HS := hide (take_snoc ht)
      obtain ⟨xs, hrow, hold⟩ := HV.out
      have hln : (l.take k).length = k := by simp; omega
      obtain ⟨ta, tc, rfl⟩ := slice_form hrow.1
      rw [hln] at hrow
      have HROW := hide hrow
      have HOLD := hide hold
      have C := hide (copy_Pred t av0 av1 wr hs0 hs1 hit.1 hit.2)
      clear h2 ht hrow hold HV hit hs0 hs1
      rw [hln]
      go_wp2_with fail
      refine C.out.mono ?_
      rintro _ w2 ⟨v2, rfl, ⟨u0, u1, rfl, hv0, hv1⟩, hb⟩
      obtain ⟨p0, r0, rfl⟩ := rows_form hv0
      have HV0 := hide (Strs.mono hv0 fun g hg => Nat.le_trans HW.out.size hg)
      obtain ⟨p1, r1, rfl⟩ := rows_form hv1
      have HV1 := hide (Moneys.mono hv1 fun g hg => Nat.le_trans HW.out.size hg)
      have HROW2 := hide (HROW.out.keep (Kp.of_below (T := [92]) hb) (by decide))
      have HC : Hid (∀ w0 w' b ys, Kp inner (New w) w0 w' → cPred (New w) w0 b ys → cPred (New w) w' b ys) := hide (fun _ _ _ _ hk h => h.keep hk)
      have HOLD2 : Hid (∀ i b, (l.take k)[i]? = some b → cPred (New w) w2 b ((xs.drop (i * 4)).take 4)) := hide fun i b hi => HC.out _ _ _ _ (Kp.of_below hb) (HOLD.out i b hi)
      have HW2 := hide (HW.out.trans (hb.mono HW.out.size))
      have HZ : Hid (∀ g, w2.heap.size ≤ g → New w g) := hide fun g hg => Nat.le_trans HW2.out.size hg
      have HSZ := hide HW2.out.size
      clear hb hv0 hv1 HROW HOLD HW C
      go_wp2_with (at_builtin; go_must (refine wpList_append_two _ rfl _ _ 24 rfl 0 92 iM _ 4 72 Tryz.underlying24 hiM zM0 zM1 zM2 rfl (by decide) _ _ _ rfl (HROW2.out.1.alloc _) ⟨w2.heap.size, 0, none⟩ 1 [.string ⟨t.name.toArray⟩, .int .i64 t.sort, .slice p0 t.kinds.length r0, .slice p1 t.values.length r1] rfl rfl (news_at rfl) (by simp [Value.oneCell']) (by unfold maxLen; omega) (by omega) (Nat.zero_le _) ?_))
      intro g cap w4 hown hg
      obtain ⟨p1, p2⟩ := put_more (T := inner) (B := w.heap.size) (a := t) rfl (by rw [hln]; exact HROW2.out) HOLD2.out ⟨_, _, rfl, HV0.out, HV1.out⟩ rfl HZ.out HC.out (by decide) (fun g hg => hg) HSZ.out (by rw [hln]; exact hown) hg
      rw [HS.out, hln] at p1
      have P1 := hide p1
      have P2 := hide (HW2.out.trans p2)
      clear p1 p2 hown hg HROW2 HOLD2 HW2 HZ HSZ HC
      go_wp2_with fail
      go_roundw
      case rel => exact ⟨k + 1, by omega, by go_num, P1, P2⟩
      case measure => simp [intOf]; omega
    · have ek : k = l.length := by omega
      subst ek
      rw [List.take_length] at HV
      go_wp2_with fail
      go_ret
      exact ⟨_, rfl, HV.out, HW.out⟩

set_option maxRecDepth 100000 in
set_option maxHeartbeats 3200000 in
theorem copy_CopyTotals {Z : Nat → Prop} (l : List TotalM) (va : Value) (w : World) (ha : Rows Z 111 5 (cTotal Z) w l va) (hl : l.length ≤ 1000000000) (hi : ∀ a, a ∈ l → a.preds.length ≤ 1000000000) :
    Calls Tryz.prog 44 #[va] w fun e w' => ∃ v, e = .returned v ∧ Rows (New w) 111 5 (cTotal (New w)) w' l v ∧ Below w.heap.size w w' := by
  obtain ⟨iM, hiM, zM0, zM1, zM2⟩ := info_parts' info_total
  have HA := hide ha
  obtain ⟨aa, ca, rfl⟩ := rows_form ha
  clear ha
  go_enter Tryz.func44, Tryz.ntmps44
  go_wp2_with fail
  go_loopw [3, 4] (fun x z wr => ∃ k : Nat, k ≤ l.length ∧ z = .int .i64 k ∧ Hid (Rows (New w) 111 5 (cTotal (New w)) wr (l.take k) x) ∧ Hid (Below w.heap.size w wr)) (fun _ z _ => l.length - (intOf z).toNat)
  case atStart => exact ⟨0, by omega, rfl, hide (Rows.nil _ _ _ _ _), hide (Below.refl _ w)⟩
  case round =>
    obtain ⟨k, hk, rfl, HV, HW⟩ := hrel
    by_cases hlt : k < l.length
    · obtain ⟨t, ht⟩ : ∃ t, l[k]? = some t := ⟨l[k], by simp [hlt]⟩
      obtain ⟨ga, xa, ya, e1, _, ⟨av0, rfl, hs0⟩, h2⟩ := (HA.out.keep (T := [111]) (Kp.of_below HW.out) (by decide) (fun _ _ h => h.keep (Kp.of_below HW.out))).at ht
      simp only [Value.slice.injEq] at e1
      obtain ⟨rfl, _, rfl⟩ := e1
      have a0 : wr.cell? ⟨ga, k * 5, none⟩ = some (.string ⟨t.name.toArray⟩) := by have := h2 0 _ rfl; simpa using this
      have a1 : wr.cell? ⟨ga, k * 5 + 1, none⟩ = some (.string ⟨t.kind.toArray⟩) := by have := h2 1 _ rfl; simpa using this
      have a2 : wr.cell? ⟨ga, k * 5 + 2, none⟩ = some (av0) := by have := h2 2 _ rfl; simpa using this
      have a3 : wr.cell? ⟨ga, k * 5 + 3, none⟩ = some (.bool t.hasCap) := by have := h2 3 _ rfl; simpa using this
      have a4 : wr.cell? ⟨ga, k * 5 + 4, none⟩ = some (.int .i64 t.cap) := by have := h2 4 _ rfl; simpa using this
      have hit := hi t (List.mem_of_getElem? ht)
      have HS := hide (take_snoc ht)
      obtain ⟨xs, hrow, hold⟩ := HV.out
      have hln : (l.take k).length = k := by simp; omega
      obtain ⟨ta, tc, rfl⟩ := slice_form hrow.1
      rw [hln] at hrow
      have HROW := hide hrow
      have HOLD := hide hold
      have C := hide (copy_Total t av0 wr hs0 hit)
      clear h2 ht hrow hold HV hit hs0
      rw [hln]
      go_wp2_with fail
      refine C.out.mono ?_
      rintro _ w2 ⟨v2, rfl, ⟨u0, rfl, hv0⟩, hb⟩
      obtain ⟨p0, r0, rfl⟩ := rows_form hv0
      have HV0 := hide (Strs.mono hv0 fun g hg => Nat.le_trans HW.out.size hg)
      have HROW2 := hide (HROW.out.keep (Kp.of_below (T := [111]) hb) (by decide))
      have HC : Hid (∀ w0 w' b ys, Kp inner (New w) w0 w' → cTotal (New w) w0 b ys → cTotal (New w) w' b ys) := hide (fun _ _ _ _ hk h => h.keep hk)
      have HOLD2 : Hid (∀ i b, (l.take k)[i]? = some b → cTotal (New w) w2 b ((xs.drop (i * 5)).take 5)) := hide fun i b hi => HC.out _ _ _ _ (Kp.of_below hb) (HOLD.out i b hi)
      have HW2 := hide (HW.out.trans (hb.mono HW.out.size))
      have HZ : Hid (∀ g, w2.heap.size ≤ g → New w g) := hide fun g hg => Nat.le_trans HW2.out.size hg
      have HSZ := hide HW2.out.size
      clear hb hv0 HROW HOLD HW C
      go_wp2_with (at_builtin; go_must (refine wpList_append_two _ rfl _ _ 29 rfl 0 111 iM _ 5 72 Tryz.underlying29 hiM zM0 zM1 zM2 rfl (by decide) _ _ _ rfl (HROW2.out.1.alloc _) ⟨w2.heap.size, 0, none⟩ 1 [.string ⟨t.name.toArray⟩, .string ⟨t.kind.toArray⟩, .slice p0 t.preds.length r0, .bool t.hasCap, .int .i64 t.cap] rfl rfl (news_at rfl) (by simp [Value.oneCell']) (by unfold maxLen; omega) (by omega) (Nat.zero_le _) ?_))
      intro g cap w4 hown hg
      obtain ⟨p1, p2⟩ := put_more (T := inner) (B := w.heap.size) (a := t) rfl (by rw [hln]; exact HROW2.out) HOLD2.out ⟨_, rfl, HV0.out⟩ rfl HZ.out HC.out (by decide) (fun g hg => hg) HSZ.out (by rw [hln]; exact hown) hg
      rw [HS.out, hln] at p1
      have P1 := hide p1
      have P2 := hide (HW2.out.trans p2)
      clear p1 p2 hown hg HROW2 HOLD2 HW2 HZ HSZ HC
      go_wp2_with fail
      go_roundw
      case rel => exact ⟨k + 1, by omega, by go_num, P1, P2⟩
      case measure => simp [intOf]; omega
    · have ek : k = l.length := by omega
      subst ek
      rw [List.take_length] at HV
      go_wp2_with fail
      go_ret
      exact ⟨_, rfl, HV.out, HW.out⟩

set_option maxRecDepth 100000 in
set_option maxHeartbeats 3200000 in
theorem copy_CopyStringLists {Z : Nat → Prop} (l : List (List Bytes)) (va : Value) (w : World) (ha : Rows Z 22 1 (cClass Z) w l va) (hl : l.length ≤ 1000000000) (hi : ∀ a, a ∈ l → a.length ≤ 1000000000) :
    Calls Tryz.prog 40 #[va] w fun e w' => ∃ v, e = .returned v ∧ Rows (New w) 22 1 (cClass (New w)) w' l v ∧ Below w.heap.size w w' := by
  obtain ⟨iM, hiM, zM0, zM1, zM2⟩ := info_parts' info_class
  have HA := hide ha
  obtain ⟨aa, ca, rfl⟩ := rows_form ha
  clear ha
  go_enter Tryz.func40, Tryz.ntmps40
  go_wp2_with fail
  go_loopw [3, 4] (fun x z wr => ∃ k : Nat, k ≤ l.length ∧ z = .int .i64 k ∧ Hid (Rows (New w) 22 1 (cClass (New w)) wr (l.take k) x) ∧ Hid (Below w.heap.size w wr)) (fun _ z _ => l.length - (intOf z).toNat)
  case atStart => exact ⟨0, by omega, rfl, hide (Rows.nil _ _ _ _ _), hide (Below.refl _ w)⟩
  case round =>
    obtain ⟨k, hk, rfl, HV, HW⟩ := hrel
    by_cases hlt : k < l.length
    · obtain ⟨t, ht⟩ : ∃ t, l[k]? = some t := ⟨l[k], by simp [hlt]⟩
      obtain ⟨ga, xa, ya, e1, _, ⟨av0, rfl, hs0⟩, h2⟩ := (HA.out.keep (T := [22]) (Kp.of_below HW.out) (by decide) (fun _ _ h => h.keep (Kp.of_below HW.out))).at ht
      simp only [Value.slice.injEq] at e1
      obtain ⟨rfl, _, rfl⟩ := e1
      have a0 : wr.cell? ⟨ga, k, none⟩ = some (av0) := by have := h2 0 _ rfl; simpa using this
      have hit := hi t (List.mem_of_getElem? ht)
      have HS := hide (take_snoc ht)
      obtain ⟨xs, hrow, hold⟩ := HV.out
      have hln : (l.take k).length = k := by simp; omega
      obtain ⟨ta, tc, rfl⟩ := slice_form hrow.1
      rw [hln] at hrow
      have HROW := hide hrow
      have HOLD := hide hold
      have C := hide (copy_CopyStrings t av0 wr hs0 hit)
      clear h2 ht hrow hold HV hit hs0
      rw [hln]
      go_wp2_with fail
      refine C.out.mono ?_
      rintro _ w2 ⟨u0, rfl, hv0, hb⟩
      obtain ⟨p0, r0, rfl⟩ := rows_form hv0
      have HV0 := hide (Strs.mono hv0 fun g hg => Nat.le_trans HW.out.size hg)
      have HROW2 := hide (HROW.out.keep (Kp.of_below (T := [22]) hb) (by decide))
      have HC : Hid (∀ w0 w' b ys, Kp inner (New w) w0 w' → cClass (New w) w0 b ys → cClass (New w) w' b ys) := hide (fun _ _ _ _ hk h => h.keep hk)
      have HOLD2 : Hid (∀ i b, (l.take k)[i]? = some b → cClass (New w) w2 b ((xs.drop (i * 1)).take 1)) := hide fun i b hi => HC.out _ _ _ _ (Kp.of_below hb) (HOLD.out i b hi)
      have HW2 := hide (HW.out.trans (hb.mono HW.out.size))
      have HZ : Hid (∀ g, w2.heap.size ≤ g → New w g) := hide fun g hg => Nat.le_trans HW2.out.size hg
      have HSZ := hide HW2.out.size
      clear hb hv0 HROW HOLD HW C
      go_wp2_with (at_builtin; go_must (refine wpList_append_two _ rfl _ _ 25 rfl 0 22 iM _ 1 24 Tryz.underlying25 hiM zM0 zM1 zM2 rfl (by decide) _ _ _ rfl (HROW2.out.1.alloc _) ⟨w2.heap.size, 0, none⟩ 1 [.slice p0 t.length r0] rfl rfl (news_at rfl) (by simp [Value.oneCell']) (by unfold maxLen; omega) (by omega) (Nat.zero_le _) ?_))
      intro g cap w4 hown hg
      obtain ⟨p1, p2⟩ := put_more (T := inner) (B := w.heap.size) (a := t) rfl (by rw [hln]; exact HROW2.out) HOLD2.out ⟨_, rfl, HV0.out⟩ rfl HZ.out HC.out (by decide) (fun g hg => hg) HSZ.out (by rw [hln]; exact hown) hg
      rw [HS.out, hln] at p1
      have P1 := hide p1
      have P2 := hide (HW2.out.trans p2)
      clear p1 p2 hown hg HROW2 HOLD2 HW2 HZ HSZ HC
      go_wp2_with fail
      go_roundw
      case rel => exact ⟨k + 1, by omega, by go_num, P1, P2⟩
      case measure => simp [intOf]; omega
    · have ek : k = l.length := by omega
      subst ek
      rw [List.take_length] at HV
      go_wp2_with fail
      go_ret
      exact ⟨_, rfl, HV.out, HW.out⟩

end Go.Proofs.YthnjmfkiohgkkaaGreatDoor.Sy

namespace Go.Proofs.YthnjmfkiohgkkaaGreatDoor.Sy
open Go.RowKit

set_option maxRecDepth 100000 in
set_option maxHeartbeats 3200000 in
theorem copy_GuardText {Z : Nat → Prop} (a : GuardM) (x0 : Value) (x1 : Value) (w : World) (hx0 : Terms Z w a.left x0) (hx1 : Terms Z w a.right x1) (hl : a.left.length ≤ 1000000000 ∧ (∀ b, b ∈ a.left → b.args.length ≤ 1000000000) ∧ a.right.length ≤ 1000000000 ∧ ∀ b, b ∈ a.right → b.args.length ≤ 1000000000) :
    Calls Tryz.prog 165 #[.agg #[x0, .int .i64 a.op, x1]] w fun e w' => ∃ v, e = .returned v ∧ vGuard (New w) w' a v ∧ Below w.heap.size w w' := by
  obtain ⟨xa0, xc0, rfl⟩ := rows_form hx0
  have HX0 := hide hx0
  clear hx0
  obtain ⟨xa1, xc1, rfl⟩ := rows_form hx1
  have HX1 := hide hx1
  clear hx1
  go_enter Tryz.func165, Tryz.ntmps165
  have B0 : Below w.heap.size w ((w.alloc (.cells #[.slice xa0 a.left.length xc0, .int .i64 a.op, .slice xa1 a.right.length xc1] 105)).alloc (.cells #[.slice none 0 0, .int .i64 0, .slice none 0 0] 105)) := below_two w _ _
  have G0 : Hid (w.heap.size ≤ w.heap.size) := hide (Nat.le_refl _)
  have G1 : Hid (w.heap.size ≤ w.heap.size + 1) := hide (Nat.le_succ _)
  have q0 : Hid (w.heap.size ≠ w.heap.size + 1) := hide (by omega)
  have q1 : Hid (w.heap.size + 1 ≠ w.heap.size) := hide (by omega)
  have LB0 := hide (two_new w (.cells #[.slice xa0 a.left.length xc0, .int .i64 a.op, .slice xa1 a.right.length xc1] 105) (.cells #[.slice none 0 0, .int .i64 0, .slice none 0 0] 105)).1
  have LB1 := hide (two_new w (.cells #[.slice xa0 a.left.length xc0, .int .i64 a.op, .slice xa1 a.right.length xc1] 105) (.cells #[.slice none 0 0, .int .i64 0, .slice none 0 0] 105)).2
  have q2 := hide (Terms.keep HX0.out (Kp.of_below (T := [9, 109]) B0) (by decide) (by decide))
  clear HX0
  have q3 := hide (Terms.keep HX1.out (Kp.of_below (T := [9, 109]) B0) (by decide) (by decide))
  clear HX1
  have BW := hide B0
  clear B0
  have C49 := hide (copy_CopyTermTexts _ _ _ q2.out hl.1 hl.2.1)
  go_wp2_with fail
  refine C49.out.mono ?_
  rintro _ w49 ⟨v49, rfl, hv, hb⟩
  have q4 := hide ((hb.block _ (loc_lt LB0.out)).trans LB0.out)
  clear LB0
  have q5 := hide ((hb.block _ (loc_lt LB1.out)).trans LB1.out)
  clear LB1
  have q6 := hide (Terms.keep q2.out (Kp.of_below (T := [9, 109]) hb) (by decide) (by decide))
  clear q2
  have q7 := hide (Terms.keep q3.out (Kp.of_below (T := [9, 109]) hb) (by decide) (by decide))
  clear q3
  have q8 := hv
  clear hv
  obtain ⟨q9, qa, rfl⟩ := rows_form q8
  have qb := hide (Terms.mono q8 fun g hg => Nat.le_trans BW.out.size hg)
  clear q8
  have BW49 := hide (BW.out.trans (hb.mono BW.out.size))
  clear hb C49 BW
  obtain ⟨qc, qd, qe, y50⟩ := row3 q4.out
  obtain ⟨qf, qg, qh, y51⟩ := row3 q5.out
  have x52 := q0.out
  have x53 := q1.out
  have qi := hide (Terms.keep q6.out (Kp.setLoc (T := [9, 109]) (i := 0) (v := .slice q9 a.left.length qa) q4.out (by decide)) (by decide) (by decide))
  clear q6
  have qj := hide (Terms.keep q7.out (Kp.setLoc (T := [9, 109]) (i := 0) (v := .slice q9 a.left.length qa) q4.out (by decide)) (by decide) (by decide))
  clear q7
  have qk := hide (Terms.keep qb.out (Kp.setLoc (T := [9, 109]) (i := 0) (v := .slice q9 a.left.length qa) q4.out (by decide)) (by decide) (by decide))
  clear qb
  have ql := hide (loc_set (i := 0) (v := .slice q9 a.left.length qa) q4.out)
  have qm := hide (loc_other (p := ⟨w.heap.size, 0, none⟩) (v := .slice q9 a.left.length qa) q5.out q1.out)
  clear q4 q5
  have BW54 := hide (below_set BW49.out G0.out 0 (.slice q9 a.left.length qa))
  clear BW49
  have C55 := hide (copy_CopyTermTexts _ _ _ qj.out hl.2.2.1 hl.2.2.2)
  go_wp2_with fail
  refine C55.out.mono ?_
  rintro _ w55 ⟨v55, rfl, hv, hb⟩
  clear qc qd qe y50 qf qg qh y51 x52 x53
  have qn := hide ((hb.block _ (loc_lt ql.out)).trans ql.out)
  clear ql
  have qo := hide ((hb.block _ (loc_lt qm.out)).trans qm.out)
  clear qm
  have qp := hide (Terms.keep qi.out (Kp.of_below (T := [9, 109]) hb) (by decide) (by decide))
  clear qi
  have qq := hide (Terms.keep qj.out (Kp.of_below (T := [9, 109]) hb) (by decide) (by decide))
  clear qj
  have qr := hide (Terms.keep qk.out (Kp.of_below (T := [9, 109]) hb) (by decide) (by decide))
  clear qk
  have qs := hv
  clear hv
  obtain ⟨qt, qu, rfl⟩ := rows_form qs
  have qv := hide (Terms.mono qs fun g hg => Nat.le_trans BW54.out.size hg)
  clear qs
  have BW55 := hide (BW54.out.trans (hb.mono BW54.out.size))
  clear hb C55 BW54
  obtain ⟨qw, qx, qy, y56⟩ := row3 qn.out
  obtain ⟨qz, qA, qB, y57⟩ := row3 qo.out
  have x58 := q0.out
  have x59 := q1.out
  have qC := hide (Terms.keep qp.out (Kp.setLoc (T := [9, 109]) (i := 2) (v := .slice qt a.right.length qu) qn.out (by decide)) (by decide) (by decide))
  clear qp
  have qD := hide (Terms.keep qq.out (Kp.setLoc (T := [9, 109]) (i := 2) (v := .slice qt a.right.length qu) qn.out (by decide)) (by decide) (by decide))
  clear qq
  have qE := hide (Terms.keep qr.out (Kp.setLoc (T := [9, 109]) (i := 2) (v := .slice qt a.right.length qu) qn.out (by decide)) (by decide) (by decide))
  clear qr
  have qF := hide (Terms.keep qv.out (Kp.setLoc (T := [9, 109]) (i := 2) (v := .slice qt a.right.length qu) qn.out (by decide)) (by decide) (by decide))
  clear qv
  have qG := hide (loc_set (i := 2) (v := .slice qt a.right.length qu) qn.out)
  have qH := hide (loc_other (p := ⟨w.heap.size, 2, none⟩) (v := .slice qt a.right.length qu) qo.out q1.out)
  clear qn qo
  have BW60 := hide (below_set BW55.out G0.out 2 (.slice qt a.right.length qu))
  clear BW55
  go_wp2_with fail
  have hz := (And.intro qw (And.intro qx (And.intro qy (And.intro y56 (And.intro qz (And.intro qA (And.intro qB (And.intro y57 (And.intro x58 x59)))))))))
  simp [bodyPost, results, Tryz.results165, go_sem, hz]
  have qI := hide (Terms.keep qC.out (Kp.setLoc (T := [9, 109]) (i := 0) (v := .slice q9 a.left.length qa) qH.out (by decide)) (by decide) (by decide))
  clear qC
  have qJ := hide (Terms.keep qD.out (Kp.setLoc (T := [9, 109]) (i := 0) (v := .slice q9 a.left.length qa) qH.out (by decide)) (by decide) (by decide))
  clear qD
  have qK := hide (Terms.keep qE.out (Kp.setLoc (T := [9, 109]) (i := 0) (v := .slice q9 a.left.length qa) qH.out (by decide)) (by decide) (by decide))
  clear qE
  have qL := hide (Terms.keep qF.out (Kp.setLoc (T := [9, 109]) (i := 0) (v := .slice q9 a.left.length qa) qH.out (by decide)) (by decide) (by decide))
  clear qF
  have qM := hide (loc_other (p := ⟨w.heap.size + 1, 0, none⟩) (v := .slice q9 a.left.length qa) qG.out q0.out)
  have qN := hide (loc_set (i := 0) (v := .slice q9 a.left.length qa) qH.out)
  clear qG qH
  have BW61 := hide (below_set BW60.out G1.out 0 (.slice q9 a.left.length qa))
  clear BW60
  have qO := hide (Terms.keep qI.out (Kp.setLoc (T := [9, 109]) (i := 1) (v := .int .i64 a.op) qN.out (by decide)) (by decide) (by decide))
  clear qI
  have qP := hide (Terms.keep qJ.out (Kp.setLoc (T := [9, 109]) (i := 1) (v := .int .i64 a.op) qN.out (by decide)) (by decide) (by decide))
  clear qJ
  have qQ := hide (Terms.keep qK.out (Kp.setLoc (T := [9, 109]) (i := 1) (v := .int .i64 a.op) qN.out (by decide)) (by decide) (by decide))
  clear qK
  have qR := hide (Terms.keep qL.out (Kp.setLoc (T := [9, 109]) (i := 1) (v := .int .i64 a.op) qN.out (by decide)) (by decide) (by decide))
  clear qL
  have qS := hide (loc_other (p := ⟨w.heap.size + 1, 1, none⟩) (v := .int .i64 a.op) qM.out q0.out)
  have qT := hide (loc_set (i := 1) (v := .int .i64 a.op) qN.out)
  clear qM qN
  have BW62 := hide (below_set BW61.out G1.out 1 (.int .i64 a.op))
  clear BW61
  have qU := hide (Terms.keep qO.out (Kp.setLoc (T := [9, 109]) (i := 2) (v := .slice qt a.right.length qu) qT.out (by decide)) (by decide) (by decide))
  clear qO
  have qV := hide (Terms.keep qP.out (Kp.setLoc (T := [9, 109]) (i := 2) (v := .slice qt a.right.length qu) qT.out (by decide)) (by decide) (by decide))
  clear qP
  have qW := hide (Terms.keep qQ.out (Kp.setLoc (T := [9, 109]) (i := 2) (v := .slice qt a.right.length qu) qT.out (by decide)) (by decide) (by decide))
  clear qQ
  have qX := hide (Terms.keep qR.out (Kp.setLoc (T := [9, 109]) (i := 2) (v := .slice qt a.right.length qu) qT.out (by decide)) (by decide) (by decide))
  clear qR
  have qY := hide (loc_other (p := ⟨w.heap.size + 1, 2, none⟩) (v := .slice qt a.right.length qu) qS.out q0.out)
  have qZ := hide (loc_set (i := 2) (v := .slice qt a.right.length qu) qT.out)
  clear qS qT
  have BW63 := hide (below_set BW62.out G1.out 2 (.slice qt a.right.length qu))
  clear BW62
  exact ⟨⟨_, _, rfl, qW.out, qX.out⟩, BW63.out⟩

set_option maxRecDepth 100000 in
set_option maxHeartbeats 3200000 in
theorem copy_Premise {Z : Nat → Prop} (a : PremM) (x0 : Value) (x1 : Value) (x2 : Value) (w : World) (hx0 : Strs Z w a.lit.args x0) (hx1 : Terms Z w a.guard.left x1) (hx2 : Terms Z w a.guard.right x2) (hl : SmallPrem a) :
    Calls Tryz.prog 144 #[.agg #[.int .i64 a.kind, .bool a.lit.neg, .string ⟨a.lit.pred.toArray⟩, x0, .bool a.lit.hasValue, .int .i64 a.lit.value, x1, .int .i64 a.guard.op, x2, .string ⟨a.a.toArray⟩, .string ⟨a.b.toArray⟩]] w fun e w' => ∃ v, e = .returned v ∧ vPrem (New w) w' a v ∧ Below w.heap.size w w' := by
  obtain ⟨xa0, xc0, rfl⟩ := rows_form hx0
  have HX0 := hide hx0
  clear hx0
  obtain ⟨xa1, xc1, rfl⟩ := rows_form hx1
  have HX1 := hide hx1
  clear hx1
  obtain ⟨xa2, xc2, rfl⟩ := rows_form hx2
  have HX2 := hide hx2
  clear hx2
  go_enter Tryz.func144, Tryz.ntmps144
  have B0 : Below w.heap.size w ((w.alloc (.cells #[.int .i64 a.kind, .bool a.lit.neg, .string ⟨a.lit.pred.toArray⟩, .slice xa0 a.lit.args.length xc0, .bool a.lit.hasValue, .int .i64 a.lit.value, .slice xa1 a.guard.left.length xc1, .int .i64 a.guard.op, .slice xa2 a.guard.right.length xc2, .string ⟨a.a.toArray⟩, .string ⟨a.b.toArray⟩] 107)).alloc (.cells #[.int .i64 0, .bool false, .string ⟨#[]⟩, .slice none 0 0, .bool false, .int .i64 0, .slice none 0 0, .int .i64 0, .slice none 0 0, .string ⟨#[]⟩, .string ⟨#[]⟩] 107)) := below_two w _ _
  have G0 : Hid (w.heap.size ≤ w.heap.size) := hide (Nat.le_refl _)
  have G1 : Hid (w.heap.size ≤ w.heap.size + 1) := hide (Nat.le_succ _)
  have q0 : Hid (w.heap.size ≠ w.heap.size + 1) := hide (by omega)
  have q1 : Hid (w.heap.size + 1 ≠ w.heap.size) := hide (by omega)
  have LB0 := hide (two_new w (.cells #[.int .i64 a.kind, .bool a.lit.neg, .string ⟨a.lit.pred.toArray⟩, .slice xa0 a.lit.args.length xc0, .bool a.lit.hasValue, .int .i64 a.lit.value, .slice xa1 a.guard.left.length xc1, .int .i64 a.guard.op, .slice xa2 a.guard.right.length xc2, .string ⟨a.a.toArray⟩, .string ⟨a.b.toArray⟩] 107) (.cells #[.int .i64 0, .bool false, .string ⟨#[]⟩, .slice none 0 0, .bool false, .int .i64 0, .slice none 0 0, .int .i64 0, .slice none 0 0, .string ⟨#[]⟩, .string ⟨#[]⟩] 107)).1
  have LB1 := hide (two_new w (.cells #[.int .i64 a.kind, .bool a.lit.neg, .string ⟨a.lit.pred.toArray⟩, .slice xa0 a.lit.args.length xc0, .bool a.lit.hasValue, .int .i64 a.lit.value, .slice xa1 a.guard.left.length xc1, .int .i64 a.guard.op, .slice xa2 a.guard.right.length xc2, .string ⟨a.a.toArray⟩, .string ⟨a.b.toArray⟩] 107) (.cells #[.int .i64 0, .bool false, .string ⟨#[]⟩, .slice none 0 0, .bool false, .int .i64 0, .slice none 0 0, .int .i64 0, .slice none 0 0, .string ⟨#[]⟩, .string ⟨#[]⟩] 107)).2
  have q2 := hide (Strs.keep HX0.out (Kp.of_below (T := [9]) B0) (by decide))
  clear HX0
  have q3 := hide (Terms.keep HX1.out (Kp.of_below (T := [9, 109]) B0) (by decide) (by decide))
  clear HX1
  have q4 := hide (Terms.keep HX2.out (Kp.of_below (T := [9, 109]) B0) (by decide) (by decide))
  clear HX2
  have BW := hide B0
  clear B0
  have C64 := hide (copy_LitText _ _ _ q2.out hl.1)
  go_wp2_with fail
  refine C64.out.mono ?_
  rintro _ w64 ⟨v64, rfl, hv, hb⟩
  have q5 := hide ((hb.block _ (loc_lt LB0.out)).trans LB0.out)
  clear LB0
  have q6 := hide ((hb.block _ (loc_lt LB1.out)).trans LB1.out)
  clear LB1
  have q7 := hide (Strs.keep q2.out (Kp.of_below (T := [9]) hb) (by decide))
  clear q2
  have q8 := hide (Terms.keep q3.out (Kp.of_below (T := [9, 109]) hb) (by decide) (by decide))
  clear q3
  have q9 := hide (Terms.keep q4.out (Kp.of_below (T := [9, 109]) hb) (by decide) (by decide))
  clear q4
  obtain ⟨qa, rfl, qb⟩ := hv
  obtain ⟨qc, qd, rfl⟩ := rows_form qb
  have qe := hide (Strs.mono qb fun g hg => Nat.le_trans BW.out.size hg)
  clear qb
  have BW64 := hide (BW.out.trans (hb.mono BW.out.size))
  clear hb C64 BW
  obtain ⟨qf, qg, qh, qi, qj, qk, ql, qm, qn, qo, qp, y65⟩ := row11 q5.out
  obtain ⟨qq, qr, qs, qt, qu, qv, qw, qx, qy, qz, qA, y66⟩ := row11 q6.out
  have x67 := q0.out
  have x68 := q1.out
  have qB := hide (Strs.keep q7.out (Kp.setLoc (T := [9]) (i := 1) (v := .bool a.lit.neg) q5.out (by decide)) (by decide))
  clear q7
  have qC := hide (Terms.keep q8.out (Kp.setLoc (T := [9, 109]) (i := 1) (v := .bool a.lit.neg) q5.out (by decide)) (by decide) (by decide))
  clear q8
  have qD := hide (Terms.keep q9.out (Kp.setLoc (T := [9, 109]) (i := 1) (v := .bool a.lit.neg) q5.out (by decide)) (by decide) (by decide))
  clear q9
  have qE := hide (Strs.keep qe.out (Kp.setLoc (T := [9]) (i := 1) (v := .bool a.lit.neg) q5.out (by decide)) (by decide))
  clear qe
  have qF := hide (loc_set (i := 1) (v := .bool a.lit.neg) q5.out)
  have qG := hide (loc_other (p := ⟨w.heap.size, 1, none⟩) (v := .bool a.lit.neg) q6.out q1.out)
  clear q5 q6
  have BW69 := hide (below_set BW64.out G0.out 1 (.bool a.lit.neg))
  clear BW64
  have qH := hide (Strs.keep qB.out (Kp.setLoc (T := [9]) (i := 2) (v := .string ⟨a.lit.pred.toArray⟩) qF.out (by decide)) (by decide))
  clear qB
  have qI := hide (Terms.keep qC.out (Kp.setLoc (T := [9, 109]) (i := 2) (v := .string ⟨a.lit.pred.toArray⟩) qF.out (by decide)) (by decide) (by decide))
  clear qC
  have qJ := hide (Terms.keep qD.out (Kp.setLoc (T := [9, 109]) (i := 2) (v := .string ⟨a.lit.pred.toArray⟩) qF.out (by decide)) (by decide) (by decide))
  clear qD
  have qK := hide (Strs.keep qE.out (Kp.setLoc (T := [9]) (i := 2) (v := .string ⟨a.lit.pred.toArray⟩) qF.out (by decide)) (by decide))
  clear qE
  have qL := hide (loc_set (i := 2) (v := .string ⟨a.lit.pred.toArray⟩) qF.out)
  have qM := hide (loc_other (p := ⟨w.heap.size, 2, none⟩) (v := .string ⟨a.lit.pred.toArray⟩) qG.out q1.out)
  clear qF qG
  have BW70 := hide (below_set BW69.out G0.out 2 (.string ⟨a.lit.pred.toArray⟩))
  clear BW69
  have qN := hide (Strs.keep qH.out (Kp.setLoc (T := [9]) (i := 3) (v := .slice qc a.lit.args.length qd) qL.out (by decide)) (by decide))
  clear qH
  have qO := hide (Terms.keep qI.out (Kp.setLoc (T := [9, 109]) (i := 3) (v := .slice qc a.lit.args.length qd) qL.out (by decide)) (by decide) (by decide))
  clear qI
  have qP := hide (Terms.keep qJ.out (Kp.setLoc (T := [9, 109]) (i := 3) (v := .slice qc a.lit.args.length qd) qL.out (by decide)) (by decide) (by decide))
  clear qJ
  have qQ := hide (Strs.keep qK.out (Kp.setLoc (T := [9]) (i := 3) (v := .slice qc a.lit.args.length qd) qL.out (by decide)) (by decide))
  clear qK
  have qR := hide (loc_set (i := 3) (v := .slice qc a.lit.args.length qd) qL.out)
  have qS := hide (loc_other (p := ⟨w.heap.size, 3, none⟩) (v := .slice qc a.lit.args.length qd) qM.out q1.out)
  clear qL qM
  have BW71 := hide (below_set BW70.out G0.out 3 (.slice qc a.lit.args.length qd))
  clear BW70
  have qT := hide (Strs.keep qN.out (Kp.setLoc (T := [9]) (i := 4) (v := .bool a.lit.hasValue) qR.out (by decide)) (by decide))
  clear qN
  have qU := hide (Terms.keep qO.out (Kp.setLoc (T := [9, 109]) (i := 4) (v := .bool a.lit.hasValue) qR.out (by decide)) (by decide) (by decide))
  clear qO
  have qV := hide (Terms.keep qP.out (Kp.setLoc (T := [9, 109]) (i := 4) (v := .bool a.lit.hasValue) qR.out (by decide)) (by decide) (by decide))
  clear qP
  have qW := hide (Strs.keep qQ.out (Kp.setLoc (T := [9]) (i := 4) (v := .bool a.lit.hasValue) qR.out (by decide)) (by decide))
  clear qQ
  have qX := hide (loc_set (i := 4) (v := .bool a.lit.hasValue) qR.out)
  have qY := hide (loc_other (p := ⟨w.heap.size, 4, none⟩) (v := .bool a.lit.hasValue) qS.out q1.out)
  clear qR qS
  have BW72 := hide (below_set BW71.out G0.out 4 (.bool a.lit.hasValue))
  clear BW71
  have qZ := hide (Strs.keep qT.out (Kp.setLoc (T := [9]) (i := 5) (v := .int .i64 a.lit.value) qX.out (by decide)) (by decide))
  clear qT
  have q10 := hide (Terms.keep qU.out (Kp.setLoc (T := [9, 109]) (i := 5) (v := .int .i64 a.lit.value) qX.out (by decide)) (by decide) (by decide))
  clear qU
  have q11 := hide (Terms.keep qV.out (Kp.setLoc (T := [9, 109]) (i := 5) (v := .int .i64 a.lit.value) qX.out (by decide)) (by decide) (by decide))
  clear qV
  have q12 := hide (Strs.keep qW.out (Kp.setLoc (T := [9]) (i := 5) (v := .int .i64 a.lit.value) qX.out (by decide)) (by decide))
  clear qW
  have q13 := hide (loc_set (i := 5) (v := .int .i64 a.lit.value) qX.out)
  have q14 := hide (loc_other (p := ⟨w.heap.size, 5, none⟩) (v := .int .i64 a.lit.value) qY.out q1.out)
  clear qX qY
  have BW73 := hide (below_set BW72.out G0.out 5 (.int .i64 a.lit.value))
  clear BW72
  have C74 := hide (copy_GuardText _ _ _ _ q10.out q11.out hl.2)
  go_wp2_with fail
  refine C74.out.mono ?_
  rintro _ w74 ⟨v74, rfl, hv, hb⟩
  clear qf qg qh qi qj qk ql qm qn qo qp y65 qq qr qs qt qu qv qw qx qy qz qA y66 x67 x68
  have q15 := hide ((hb.block _ (loc_lt q13.out)).trans q13.out)
  clear q13
  have q16 := hide ((hb.block _ (loc_lt q14.out)).trans q14.out)
  clear q14
  have q17 := hide (Strs.keep qZ.out (Kp.of_below (T := [9]) hb) (by decide))
  clear qZ
  have q18 := hide (Terms.keep q10.out (Kp.of_below (T := [9, 109]) hb) (by decide) (by decide))
  clear q10
  have q19 := hide (Terms.keep q11.out (Kp.of_below (T := [9, 109]) hb) (by decide) (by decide))
  clear q11
  have q1a := hide (Strs.keep q12.out (Kp.of_below (T := [9]) hb) (by decide))
  clear q12
  obtain ⟨q1b, q1c, rfl, q1d, q1e⟩ := hv
  obtain ⟨q1f, q1g, rfl⟩ := rows_form q1d
  have q1h := hide (Terms.mono q1d fun g hg => Nat.le_trans BW73.out.size hg)
  clear q1d
  obtain ⟨q1i, q1j, rfl⟩ := rows_form q1e
  have q1k := hide (Terms.mono q1e fun g hg => Nat.le_trans BW73.out.size hg)
  clear q1e
  have BW74 := hide (BW73.out.trans (hb.mono BW73.out.size))
  clear hb C74 BW73
  obtain ⟨q1l, q1m, q1n, q1o, q1p, q1q, q1r, q1s, q1t, q1u, q1v, y75⟩ := row11 q15.out
  obtain ⟨q1w, q1x, q1y, q1z, q1A, q1B, q1C, q1D, q1E, q1F, q1G, y76⟩ := row11 q16.out
  have x77 := q0.out
  have x78 := q1.out
  have q1H := hide (Strs.keep q17.out (Kp.setLoc (T := [9]) (i := 6) (v := .slice q1f a.guard.left.length q1g) q15.out (by decide)) (by decide))
  clear q17
  have q1I := hide (Terms.keep q18.out (Kp.setLoc (T := [9, 109]) (i := 6) (v := .slice q1f a.guard.left.length q1g) q15.out (by decide)) (by decide) (by decide))
  clear q18
  have q1J := hide (Terms.keep q19.out (Kp.setLoc (T := [9, 109]) (i := 6) (v := .slice q1f a.guard.left.length q1g) q15.out (by decide)) (by decide) (by decide))
  clear q19
  have q1K := hide (Strs.keep q1a.out (Kp.setLoc (T := [9]) (i := 6) (v := .slice q1f a.guard.left.length q1g) q15.out (by decide)) (by decide))
  clear q1a
  have q1L := hide (Terms.keep q1h.out (Kp.setLoc (T := [9, 109]) (i := 6) (v := .slice q1f a.guard.left.length q1g) q15.out (by decide)) (by decide) (by decide))
  clear q1h
  have q1M := hide (Terms.keep q1k.out (Kp.setLoc (T := [9, 109]) (i := 6) (v := .slice q1f a.guard.left.length q1g) q15.out (by decide)) (by decide) (by decide))
  clear q1k
  have q1N := hide (loc_set (i := 6) (v := .slice q1f a.guard.left.length q1g) q15.out)
  have q1O := hide (loc_other (p := ⟨w.heap.size, 6, none⟩) (v := .slice q1f a.guard.left.length q1g) q16.out q1.out)
  clear q15 q16
  have BW79 := hide (below_set BW74.out G0.out 6 (.slice q1f a.guard.left.length q1g))
  clear BW74
  have q1P := hide (Strs.keep q1H.out (Kp.setLoc (T := [9]) (i := 7) (v := .int .i64 a.guard.op) q1N.out (by decide)) (by decide))
  clear q1H
  have q1Q := hide (Terms.keep q1I.out (Kp.setLoc (T := [9, 109]) (i := 7) (v := .int .i64 a.guard.op) q1N.out (by decide)) (by decide) (by decide))
  clear q1I
  have q1R := hide (Terms.keep q1J.out (Kp.setLoc (T := [9, 109]) (i := 7) (v := .int .i64 a.guard.op) q1N.out (by decide)) (by decide) (by decide))
  clear q1J
  have q1S := hide (Strs.keep q1K.out (Kp.setLoc (T := [9]) (i := 7) (v := .int .i64 a.guard.op) q1N.out (by decide)) (by decide))
  clear q1K
  have q1T := hide (Terms.keep q1L.out (Kp.setLoc (T := [9, 109]) (i := 7) (v := .int .i64 a.guard.op) q1N.out (by decide)) (by decide) (by decide))
  clear q1L
  have q1U := hide (Terms.keep q1M.out (Kp.setLoc (T := [9, 109]) (i := 7) (v := .int .i64 a.guard.op) q1N.out (by decide)) (by decide) (by decide))
  clear q1M
  have q1V := hide (loc_set (i := 7) (v := .int .i64 a.guard.op) q1N.out)
  have q1W := hide (loc_other (p := ⟨w.heap.size, 7, none⟩) (v := .int .i64 a.guard.op) q1O.out q1.out)
  clear q1N q1O
  have BW80 := hide (below_set BW79.out G0.out 7 (.int .i64 a.guard.op))
  clear BW79
  have q1X := hide (Strs.keep q1P.out (Kp.setLoc (T := [9]) (i := 8) (v := .slice q1i a.guard.right.length q1j) q1V.out (by decide)) (by decide))
  clear q1P
  have q1Y := hide (Terms.keep q1Q.out (Kp.setLoc (T := [9, 109]) (i := 8) (v := .slice q1i a.guard.right.length q1j) q1V.out (by decide)) (by decide) (by decide))
  clear q1Q
  have q1Z := hide (Terms.keep q1R.out (Kp.setLoc (T := [9, 109]) (i := 8) (v := .slice q1i a.guard.right.length q1j) q1V.out (by decide)) (by decide) (by decide))
  clear q1R
  have q20 := hide (Strs.keep q1S.out (Kp.setLoc (T := [9]) (i := 8) (v := .slice q1i a.guard.right.length q1j) q1V.out (by decide)) (by decide))
  clear q1S
  have q21 := hide (Terms.keep q1T.out (Kp.setLoc (T := [9, 109]) (i := 8) (v := .slice q1i a.guard.right.length q1j) q1V.out (by decide)) (by decide) (by decide))
  clear q1T
  have q22 := hide (Terms.keep q1U.out (Kp.setLoc (T := [9, 109]) (i := 8) (v := .slice q1i a.guard.right.length q1j) q1V.out (by decide)) (by decide) (by decide))
  clear q1U
  have q23 := hide (loc_set (i := 8) (v := .slice q1i a.guard.right.length q1j) q1V.out)
  have q24 := hide (loc_other (p := ⟨w.heap.size, 8, none⟩) (v := .slice q1i a.guard.right.length q1j) q1W.out q1.out)
  clear q1V q1W
  have BW81 := hide (below_set BW80.out G0.out 8 (.slice q1i a.guard.right.length q1j))
  clear BW80
  go_wp2_with fail
  have hz := (And.intro q1l (And.intro q1m (And.intro q1n (And.intro q1o (And.intro q1p (And.intro q1q (And.intro q1r (And.intro q1s (And.intro q1t (And.intro q1u (And.intro q1v (And.intro y75 (And.intro q1w (And.intro q1x (And.intro q1y (And.intro q1z (And.intro q1A (And.intro q1B (And.intro q1C (And.intro q1D (And.intro q1E (And.intro q1F (And.intro q1G (And.intro y76 (And.intro x77 x78)))))))))))))))))))))))))
  simp [bodyPost, results, Tryz.results144, go_sem, hz]
  have q25 := hide (Strs.keep q1X.out (Kp.setLoc (T := [9]) (i := 0) (v := .int .i64 a.kind) q24.out (by decide)) (by decide))
  clear q1X
  have q26 := hide (Terms.keep q1Y.out (Kp.setLoc (T := [9, 109]) (i := 0) (v := .int .i64 a.kind) q24.out (by decide)) (by decide) (by decide))
  clear q1Y
  have q27 := hide (Terms.keep q1Z.out (Kp.setLoc (T := [9, 109]) (i := 0) (v := .int .i64 a.kind) q24.out (by decide)) (by decide) (by decide))
  clear q1Z
  have q28 := hide (Strs.keep q20.out (Kp.setLoc (T := [9]) (i := 0) (v := .int .i64 a.kind) q24.out (by decide)) (by decide))
  clear q20
  have q29 := hide (Terms.keep q21.out (Kp.setLoc (T := [9, 109]) (i := 0) (v := .int .i64 a.kind) q24.out (by decide)) (by decide) (by decide))
  clear q21
  have q2a := hide (Terms.keep q22.out (Kp.setLoc (T := [9, 109]) (i := 0) (v := .int .i64 a.kind) q24.out (by decide)) (by decide) (by decide))
  clear q22
  have q2b := hide (loc_other (p := ⟨w.heap.size + 1, 0, none⟩) (v := .int .i64 a.kind) q23.out q0.out)
  have q2c := hide (loc_set (i := 0) (v := .int .i64 a.kind) q24.out)
  clear q23 q24
  have BW82 := hide (below_set BW81.out G1.out 0 (.int .i64 a.kind))
  clear BW81
  have q2d := hide (Strs.keep q25.out (Kp.setLoc (T := [9]) (i := 1) (v := .bool a.lit.neg) q2c.out (by decide)) (by decide))
  clear q25
  have q2e := hide (Terms.keep q26.out (Kp.setLoc (T := [9, 109]) (i := 1) (v := .bool a.lit.neg) q2c.out (by decide)) (by decide) (by decide))
  clear q26
  have q2f := hide (Terms.keep q27.out (Kp.setLoc (T := [9, 109]) (i := 1) (v := .bool a.lit.neg) q2c.out (by decide)) (by decide) (by decide))
  clear q27
  have q2g := hide (Strs.keep q28.out (Kp.setLoc (T := [9]) (i := 1) (v := .bool a.lit.neg) q2c.out (by decide)) (by decide))
  clear q28
  have q2h := hide (Terms.keep q29.out (Kp.setLoc (T := [9, 109]) (i := 1) (v := .bool a.lit.neg) q2c.out (by decide)) (by decide) (by decide))
  clear q29
  have q2i := hide (Terms.keep q2a.out (Kp.setLoc (T := [9, 109]) (i := 1) (v := .bool a.lit.neg) q2c.out (by decide)) (by decide) (by decide))
  clear q2a
  have q2j := hide (loc_other (p := ⟨w.heap.size + 1, 1, none⟩) (v := .bool a.lit.neg) q2b.out q0.out)
  have q2k := hide (loc_set (i := 1) (v := .bool a.lit.neg) q2c.out)
  clear q2b q2c
  have BW83 := hide (below_set BW82.out G1.out 1 (.bool a.lit.neg))
  clear BW82
  have q2l := hide (Strs.keep q2d.out (Kp.setLoc (T := [9]) (i := 2) (v := .string ⟨a.lit.pred.toArray⟩) q2k.out (by decide)) (by decide))
  clear q2d
  have q2m := hide (Terms.keep q2e.out (Kp.setLoc (T := [9, 109]) (i := 2) (v := .string ⟨a.lit.pred.toArray⟩) q2k.out (by decide)) (by decide) (by decide))
  clear q2e
  have q2n := hide (Terms.keep q2f.out (Kp.setLoc (T := [9, 109]) (i := 2) (v := .string ⟨a.lit.pred.toArray⟩) q2k.out (by decide)) (by decide) (by decide))
  clear q2f
  have q2o := hide (Strs.keep q2g.out (Kp.setLoc (T := [9]) (i := 2) (v := .string ⟨a.lit.pred.toArray⟩) q2k.out (by decide)) (by decide))
  clear q2g
  have q2p := hide (Terms.keep q2h.out (Kp.setLoc (T := [9, 109]) (i := 2) (v := .string ⟨a.lit.pred.toArray⟩) q2k.out (by decide)) (by decide) (by decide))
  clear q2h
  have q2q := hide (Terms.keep q2i.out (Kp.setLoc (T := [9, 109]) (i := 2) (v := .string ⟨a.lit.pred.toArray⟩) q2k.out (by decide)) (by decide) (by decide))
  clear q2i
  have q2r := hide (loc_other (p := ⟨w.heap.size + 1, 2, none⟩) (v := .string ⟨a.lit.pred.toArray⟩) q2j.out q0.out)
  have q2s := hide (loc_set (i := 2) (v := .string ⟨a.lit.pred.toArray⟩) q2k.out)
  clear q2j q2k
  have BW84 := hide (below_set BW83.out G1.out 2 (.string ⟨a.lit.pred.toArray⟩))
  clear BW83
  have q2t := hide (Strs.keep q2l.out (Kp.setLoc (T := [9]) (i := 3) (v := .slice qc a.lit.args.length qd) q2s.out (by decide)) (by decide))
  clear q2l
  have q2u := hide (Terms.keep q2m.out (Kp.setLoc (T := [9, 109]) (i := 3) (v := .slice qc a.lit.args.length qd) q2s.out (by decide)) (by decide) (by decide))
  clear q2m
  have q2v := hide (Terms.keep q2n.out (Kp.setLoc (T := [9, 109]) (i := 3) (v := .slice qc a.lit.args.length qd) q2s.out (by decide)) (by decide) (by decide))
  clear q2n
  have q2w := hide (Strs.keep q2o.out (Kp.setLoc (T := [9]) (i := 3) (v := .slice qc a.lit.args.length qd) q2s.out (by decide)) (by decide))
  clear q2o
  have q2x := hide (Terms.keep q2p.out (Kp.setLoc (T := [9, 109]) (i := 3) (v := .slice qc a.lit.args.length qd) q2s.out (by decide)) (by decide) (by decide))
  clear q2p
  have q2y := hide (Terms.keep q2q.out (Kp.setLoc (T := [9, 109]) (i := 3) (v := .slice qc a.lit.args.length qd) q2s.out (by decide)) (by decide) (by decide))
  clear q2q
  have q2z := hide (loc_other (p := ⟨w.heap.size + 1, 3, none⟩) (v := .slice qc a.lit.args.length qd) q2r.out q0.out)
  have q2A := hide (loc_set (i := 3) (v := .slice qc a.lit.args.length qd) q2s.out)
  clear q2r q2s
  have BW85 := hide (below_set BW84.out G1.out 3 (.slice qc a.lit.args.length qd))
  clear BW84
  have q2B := hide (Strs.keep q2t.out (Kp.setLoc (T := [9]) (i := 4) (v := .bool a.lit.hasValue) q2A.out (by decide)) (by decide))
  clear q2t
  have q2C := hide (Terms.keep q2u.out (Kp.setLoc (T := [9, 109]) (i := 4) (v := .bool a.lit.hasValue) q2A.out (by decide)) (by decide) (by decide))
  clear q2u
  have q2D := hide (Terms.keep q2v.out (Kp.setLoc (T := [9, 109]) (i := 4) (v := .bool a.lit.hasValue) q2A.out (by decide)) (by decide) (by decide))
  clear q2v
  have q2E := hide (Strs.keep q2w.out (Kp.setLoc (T := [9]) (i := 4) (v := .bool a.lit.hasValue) q2A.out (by decide)) (by decide))
  clear q2w
  have q2F := hide (Terms.keep q2x.out (Kp.setLoc (T := [9, 109]) (i := 4) (v := .bool a.lit.hasValue) q2A.out (by decide)) (by decide) (by decide))
  clear q2x
  have q2G := hide (Terms.keep q2y.out (Kp.setLoc (T := [9, 109]) (i := 4) (v := .bool a.lit.hasValue) q2A.out (by decide)) (by decide) (by decide))
  clear q2y
  have q2H := hide (loc_other (p := ⟨w.heap.size + 1, 4, none⟩) (v := .bool a.lit.hasValue) q2z.out q0.out)
  have q2I := hide (loc_set (i := 4) (v := .bool a.lit.hasValue) q2A.out)
  clear q2z q2A
  have BW86 := hide (below_set BW85.out G1.out 4 (.bool a.lit.hasValue))
  clear BW85
  have q2J := hide (Strs.keep q2B.out (Kp.setLoc (T := [9]) (i := 5) (v := .int .i64 a.lit.value) q2I.out (by decide)) (by decide))
  clear q2B
  have q2K := hide (Terms.keep q2C.out (Kp.setLoc (T := [9, 109]) (i := 5) (v := .int .i64 a.lit.value) q2I.out (by decide)) (by decide) (by decide))
  clear q2C
  have q2L := hide (Terms.keep q2D.out (Kp.setLoc (T := [9, 109]) (i := 5) (v := .int .i64 a.lit.value) q2I.out (by decide)) (by decide) (by decide))
  clear q2D
  have q2M := hide (Strs.keep q2E.out (Kp.setLoc (T := [9]) (i := 5) (v := .int .i64 a.lit.value) q2I.out (by decide)) (by decide))
  clear q2E
  have q2N := hide (Terms.keep q2F.out (Kp.setLoc (T := [9, 109]) (i := 5) (v := .int .i64 a.lit.value) q2I.out (by decide)) (by decide) (by decide))
  clear q2F
  have q2O := hide (Terms.keep q2G.out (Kp.setLoc (T := [9, 109]) (i := 5) (v := .int .i64 a.lit.value) q2I.out (by decide)) (by decide) (by decide))
  clear q2G
  have q2P := hide (loc_other (p := ⟨w.heap.size + 1, 5, none⟩) (v := .int .i64 a.lit.value) q2H.out q0.out)
  have q2Q := hide (loc_set (i := 5) (v := .int .i64 a.lit.value) q2I.out)
  clear q2H q2I
  have BW87 := hide (below_set BW86.out G1.out 5 (.int .i64 a.lit.value))
  clear BW86
  have q2R := hide (Strs.keep q2J.out (Kp.setLoc (T := [9]) (i := 6) (v := .slice q1f a.guard.left.length q1g) q2Q.out (by decide)) (by decide))
  clear q2J
  have q2S := hide (Terms.keep q2K.out (Kp.setLoc (T := [9, 109]) (i := 6) (v := .slice q1f a.guard.left.length q1g) q2Q.out (by decide)) (by decide) (by decide))
  clear q2K
  have q2T := hide (Terms.keep q2L.out (Kp.setLoc (T := [9, 109]) (i := 6) (v := .slice q1f a.guard.left.length q1g) q2Q.out (by decide)) (by decide) (by decide))
  clear q2L
  have q2U := hide (Strs.keep q2M.out (Kp.setLoc (T := [9]) (i := 6) (v := .slice q1f a.guard.left.length q1g) q2Q.out (by decide)) (by decide))
  clear q2M
  have q2V := hide (Terms.keep q2N.out (Kp.setLoc (T := [9, 109]) (i := 6) (v := .slice q1f a.guard.left.length q1g) q2Q.out (by decide)) (by decide) (by decide))
  clear q2N
  have q2W := hide (Terms.keep q2O.out (Kp.setLoc (T := [9, 109]) (i := 6) (v := .slice q1f a.guard.left.length q1g) q2Q.out (by decide)) (by decide) (by decide))
  clear q2O
  have q2X := hide (loc_other (p := ⟨w.heap.size + 1, 6, none⟩) (v := .slice q1f a.guard.left.length q1g) q2P.out q0.out)
  have q2Y := hide (loc_set (i := 6) (v := .slice q1f a.guard.left.length q1g) q2Q.out)
  clear q2P q2Q
  have BW88 := hide (below_set BW87.out G1.out 6 (.slice q1f a.guard.left.length q1g))
  clear BW87
  have q2Z := hide (Strs.keep q2R.out (Kp.setLoc (T := [9]) (i := 7) (v := .int .i64 a.guard.op) q2Y.out (by decide)) (by decide))
  clear q2R
  have q30 := hide (Terms.keep q2S.out (Kp.setLoc (T := [9, 109]) (i := 7) (v := .int .i64 a.guard.op) q2Y.out (by decide)) (by decide) (by decide))
  clear q2S
  have q31 := hide (Terms.keep q2T.out (Kp.setLoc (T := [9, 109]) (i := 7) (v := .int .i64 a.guard.op) q2Y.out (by decide)) (by decide) (by decide))
  clear q2T
  have q32 := hide (Strs.keep q2U.out (Kp.setLoc (T := [9]) (i := 7) (v := .int .i64 a.guard.op) q2Y.out (by decide)) (by decide))
  clear q2U
  have q33 := hide (Terms.keep q2V.out (Kp.setLoc (T := [9, 109]) (i := 7) (v := .int .i64 a.guard.op) q2Y.out (by decide)) (by decide) (by decide))
  clear q2V
  have q34 := hide (Terms.keep q2W.out (Kp.setLoc (T := [9, 109]) (i := 7) (v := .int .i64 a.guard.op) q2Y.out (by decide)) (by decide) (by decide))
  clear q2W
  have q35 := hide (loc_other (p := ⟨w.heap.size + 1, 7, none⟩) (v := .int .i64 a.guard.op) q2X.out q0.out)
  have q36 := hide (loc_set (i := 7) (v := .int .i64 a.guard.op) q2Y.out)
  clear q2X q2Y
  have BW89 := hide (below_set BW88.out G1.out 7 (.int .i64 a.guard.op))
  clear BW88
  have q37 := hide (Strs.keep q2Z.out (Kp.setLoc (T := [9]) (i := 8) (v := .slice q1i a.guard.right.length q1j) q36.out (by decide)) (by decide))
  clear q2Z
  have q38 := hide (Terms.keep q30.out (Kp.setLoc (T := [9, 109]) (i := 8) (v := .slice q1i a.guard.right.length q1j) q36.out (by decide)) (by decide) (by decide))
  clear q30
  have q39 := hide (Terms.keep q31.out (Kp.setLoc (T := [9, 109]) (i := 8) (v := .slice q1i a.guard.right.length q1j) q36.out (by decide)) (by decide) (by decide))
  clear q31
  have q3a := hide (Strs.keep q32.out (Kp.setLoc (T := [9]) (i := 8) (v := .slice q1i a.guard.right.length q1j) q36.out (by decide)) (by decide))
  clear q32
  have q3b := hide (Terms.keep q33.out (Kp.setLoc (T := [9, 109]) (i := 8) (v := .slice q1i a.guard.right.length q1j) q36.out (by decide)) (by decide) (by decide))
  clear q33
  have q3c := hide (Terms.keep q34.out (Kp.setLoc (T := [9, 109]) (i := 8) (v := .slice q1i a.guard.right.length q1j) q36.out (by decide)) (by decide) (by decide))
  clear q34
  have q3d := hide (loc_other (p := ⟨w.heap.size + 1, 8, none⟩) (v := .slice q1i a.guard.right.length q1j) q35.out q0.out)
  have q3e := hide (loc_set (i := 8) (v := .slice q1i a.guard.right.length q1j) q36.out)
  clear q35 q36
  have BW90 := hide (below_set BW89.out G1.out 8 (.slice q1i a.guard.right.length q1j))
  clear BW89
  have q3f := hide (Strs.keep q37.out (Kp.setLoc (T := [9]) (i := 9) (v := .string ⟨a.a.toArray⟩) q3e.out (by decide)) (by decide))
  clear q37
  have q3g := hide (Terms.keep q38.out (Kp.setLoc (T := [9, 109]) (i := 9) (v := .string ⟨a.a.toArray⟩) q3e.out (by decide)) (by decide) (by decide))
  clear q38
  have q3h := hide (Terms.keep q39.out (Kp.setLoc (T := [9, 109]) (i := 9) (v := .string ⟨a.a.toArray⟩) q3e.out (by decide)) (by decide) (by decide))
  clear q39
  have q3i := hide (Strs.keep q3a.out (Kp.setLoc (T := [9]) (i := 9) (v := .string ⟨a.a.toArray⟩) q3e.out (by decide)) (by decide))
  clear q3a
  have q3j := hide (Terms.keep q3b.out (Kp.setLoc (T := [9, 109]) (i := 9) (v := .string ⟨a.a.toArray⟩) q3e.out (by decide)) (by decide) (by decide))
  clear q3b
  have q3k := hide (Terms.keep q3c.out (Kp.setLoc (T := [9, 109]) (i := 9) (v := .string ⟨a.a.toArray⟩) q3e.out (by decide)) (by decide) (by decide))
  clear q3c
  have q3l := hide (loc_other (p := ⟨w.heap.size + 1, 9, none⟩) (v := .string ⟨a.a.toArray⟩) q3d.out q0.out)
  have q3m := hide (loc_set (i := 9) (v := .string ⟨a.a.toArray⟩) q3e.out)
  clear q3d q3e
  have BW91 := hide (below_set BW90.out G1.out 9 (.string ⟨a.a.toArray⟩))
  clear BW90
  have q3n := hide (Strs.keep q3f.out (Kp.setLoc (T := [9]) (i := 10) (v := .string ⟨a.b.toArray⟩) q3m.out (by decide)) (by decide))
  clear q3f
  have q3o := hide (Terms.keep q3g.out (Kp.setLoc (T := [9, 109]) (i := 10) (v := .string ⟨a.b.toArray⟩) q3m.out (by decide)) (by decide) (by decide))
  clear q3g
  have q3p := hide (Terms.keep q3h.out (Kp.setLoc (T := [9, 109]) (i := 10) (v := .string ⟨a.b.toArray⟩) q3m.out (by decide)) (by decide) (by decide))
  clear q3h
  have q3q := hide (Strs.keep q3i.out (Kp.setLoc (T := [9]) (i := 10) (v := .string ⟨a.b.toArray⟩) q3m.out (by decide)) (by decide))
  clear q3i
  have q3r := hide (Terms.keep q3j.out (Kp.setLoc (T := [9, 109]) (i := 10) (v := .string ⟨a.b.toArray⟩) q3m.out (by decide)) (by decide) (by decide))
  clear q3j
  have q3s := hide (Terms.keep q3k.out (Kp.setLoc (T := [9, 109]) (i := 10) (v := .string ⟨a.b.toArray⟩) q3m.out (by decide)) (by decide) (by decide))
  clear q3k
  have q3t := hide (loc_other (p := ⟨w.heap.size + 1, 10, none⟩) (v := .string ⟨a.b.toArray⟩) q3l.out q0.out)
  have q3u := hide (loc_set (i := 10) (v := .string ⟨a.b.toArray⟩) q3m.out)
  clear q3l q3m
  have BW92 := hide (below_set BW91.out G1.out 10 (.string ⟨a.b.toArray⟩))
  clear BW91
  exact ⟨⟨_, _, _, rfl, q3q.out, q3r.out, q3s.out⟩, BW92.out⟩

set_option maxRecDepth 100000 in
set_option maxHeartbeats 3200000 in
theorem copy_CopyPremises {Z : Nat → Prop} (l : List PremM) (va : Value) (w : World) (ha : Rows Z 107 11 (cPrem Z) w l va) (hl : l.length ≤ 1000000000) (hi : ∀ a, a ∈ l → SmallPrem a) :
    Calls Tryz.prog 108 #[va] w fun e w' => ∃ v, e = .returned v ∧ Rows (New w) 107 11 (cPrem (New w)) w' l v ∧ Below w.heap.size w w' := by
  obtain ⟨iM, hiM, zM0, zM1, zM2⟩ := info_parts' info_prem
  have HA := hide ha
  obtain ⟨aa, ca, rfl⟩ := rows_form ha
  clear ha
  go_enter Tryz.func108, Tryz.ntmps108
  go_wp2_with fail
  go_loopw [3, 4] (fun x z wr => ∃ k : Nat, k ≤ l.length ∧ z = .int .i64 k ∧ Hid (Rows (New w) 107 11 (cPrem (New w)) wr (l.take k) x) ∧ Hid (Below w.heap.size w wr)) (fun _ z _ => l.length - (intOf z).toNat)
  case atStart => exact ⟨0, by omega, rfl, hide (Rows.nil _ _ _ _ _), hide (Below.refl _ w)⟩
  case round =>
    obtain ⟨k, hk, rfl, HV, HW⟩ := hrel
    by_cases hlt : k < l.length
    · obtain ⟨t, ht⟩ : ∃ t, l[k]? = some t := ⟨l[k], by simp [hlt]⟩
      obtain ⟨ga, xa, ya, e1, _, ⟨av0, av1, av2, rfl, hs0, hs1, hs2⟩, h2⟩ := (HA.out.keep (T := [9, 109, 107]) (Kp.of_below HW.out) (by decide) (fun _ _ h => h.keep (T := [9, 109, 107]) (Kp.of_below HW.out) (by decide) (by decide))).at ht
      simp only [Value.slice.injEq] at e1
      obtain ⟨rfl, _, rfl⟩ := e1
      have a0 : wr.cell? ⟨ga, k * 11, none⟩ = some (.int .i64 t.kind) := by have := h2 0 _ rfl; simpa using this
      have a1 : wr.cell? ⟨ga, k * 11 + 1, none⟩ = some (.bool t.lit.neg) := by have := h2 1 _ rfl; simpa using this
      have a2 : wr.cell? ⟨ga, k * 11 + 2, none⟩ = some (.string ⟨t.lit.pred.toArray⟩) := by have := h2 2 _ rfl; simpa using this
      have a3 : wr.cell? ⟨ga, k * 11 + 3, none⟩ = some (av0) := by have := h2 3 _ rfl; simpa using this
      have a4 : wr.cell? ⟨ga, k * 11 + 4, none⟩ = some (.bool t.lit.hasValue) := by have := h2 4 _ rfl; simpa using this
      have a5 : wr.cell? ⟨ga, k * 11 + 5, none⟩ = some (.int .i64 t.lit.value) := by have := h2 5 _ rfl; simpa using this
      have a6 : wr.cell? ⟨ga, k * 11 + 6, none⟩ = some (av1) := by have := h2 6 _ rfl; simpa using this
      have a7 : wr.cell? ⟨ga, k * 11 + 7, none⟩ = some (.int .i64 t.guard.op) := by have := h2 7 _ rfl; simpa using this
      have a8 : wr.cell? ⟨ga, k * 11 + 8, none⟩ = some (av2) := by have := h2 8 _ rfl; simpa using this
      have a9 : wr.cell? ⟨ga, k * 11 + 9, none⟩ = some (.string ⟨t.a.toArray⟩) := by have := h2 9 _ rfl; simpa using this
      have a10 : wr.cell? ⟨ga, k * 11 + 10, none⟩ = some (.string ⟨t.b.toArray⟩) := by have := h2 10 _ rfl; simpa using this
      have hit := hi t (List.mem_of_getElem? ht)
      have HS := hide (take_snoc ht)
      obtain ⟨xs, hrow, hold⟩ := HV.out
      have hln : (l.take k).length = k := by simp; omega
      obtain ⟨ta, tc, rfl⟩ := slice_form hrow.1
      rw [hln] at hrow
      have HROW := hide hrow
      have HOLD := hide hold
      have C := hide (copy_Premise t av0 av1 av2 wr hs0 hs1 hs2 hit)
      clear h2 ht hrow hold HV hit hs0 hs1 hs2
      rw [hln]
      go_wp2_with fail
      refine C.out.mono ?_
      rintro _ w2 ⟨v2, rfl, ⟨u0, u1, u2, rfl, hv0, hv1, hv2⟩, hb⟩
      obtain ⟨p0, r0, rfl⟩ := rows_form hv0
      have HV0 := hide (Strs.mono hv0 fun g hg => Nat.le_trans HW.out.size hg)
      obtain ⟨p1, r1, rfl⟩ := rows_form hv1
      have HV1 := hide (Terms.mono hv1 fun g hg => Nat.le_trans HW.out.size hg)
      obtain ⟨p2, r2, rfl⟩ := rows_form hv2
      have HV2 := hide (Terms.mono hv2 fun g hg => Nat.le_trans HW.out.size hg)
      have HROW2 := hide (HROW.out.keep (Kp.of_below (T := [107]) hb) (by decide))
      have HC : Hid (∀ w0 w' b ys, Kp [9, 109] (New w) w0 w' → cPrem (New w) w0 b ys → cPrem (New w) w' b ys) := hide (fun _ _ _ _ hk h => h.keep hk (by decide) (by decide))
      have HOLD2 : Hid (∀ i b, (l.take k)[i]? = some b → cPrem (New w) w2 b ((xs.drop (i * 11)).take 11)) := hide fun i b hi => HC.out _ _ _ _ (Kp.of_below hb) (HOLD.out i b hi)
      have HW2 := hide (HW.out.trans (hb.mono HW.out.size))
      have HZ : Hid (∀ g, w2.heap.size ≤ g → New w g) := hide fun g hg => Nat.le_trans HW2.out.size hg
      have HSZ := hide HW2.out.size
      clear hb hv0 hv1 hv2 HROW HOLD HW C
      go_wp2_with (at_builtin; go_must (refine wpList_append_two _ rfl _ _ 95 rfl 0 107 iM _ 11 160 Tryz.underlying95 hiM zM0 zM1 zM2 rfl (by decide) _ _ _ rfl (HROW2.out.1.alloc _) ⟨w2.heap.size, 0, none⟩ 1 [.int .i64 t.kind, .bool t.lit.neg, .string ⟨t.lit.pred.toArray⟩, .slice p0 t.lit.args.length r0, .bool t.lit.hasValue, .int .i64 t.lit.value, .slice p1 t.guard.left.length r1, .int .i64 t.guard.op, .slice p2 t.guard.right.length r2, .string ⟨t.a.toArray⟩, .string ⟨t.b.toArray⟩] rfl rfl (news_at rfl) (by simp [Value.oneCell']) (by unfold maxLen; omega) (by omega) (Nat.zero_le _) ?_))
      intro g cap w4 hown hg
      obtain ⟨p1, p2⟩ := put_more (T := [9, 109]) (B := w.heap.size) (a := t) rfl (by rw [hln]; exact HROW2.out) HOLD2.out ⟨_, _, _, rfl, HV0.out, HV1.out, HV2.out⟩ rfl HZ.out HC.out (by decide) (fun g hg => hg) HSZ.out (by rw [hln]; exact hown) hg
      rw [HS.out, hln] at p1
      have P1 := hide p1
      have P2 := hide (HW2.out.trans p2)
      clear p1 p2 hown hg HROW2 HOLD2 HW2 HZ HSZ HC
      go_wp2_with fail
      go_roundw
      case rel => exact ⟨k + 1, by omega, by go_num, P1, P2⟩
      case measure => simp [intOf]; omega
    · have ek : k = l.length := by omega
      subst ek
      rw [List.take_length] at HV
      go_wp2_with fail
      go_ret
      exact ⟨_, rfl, HV.out, HW.out⟩

set_option maxRecDepth 100000 in
set_option maxHeartbeats 3200000 in
theorem copy_RuleText {Z : Nat → Prop} (a : RuleM) (x0 : Value) (x1 : Value) (w : World) (hx0 : Prems Z w a.body x0) (hx1 : Strs Z w a.head.args x1) (hl : SmallRule a) :
    Calls Tryz.prog 64 #[.agg #[.string ⟨a.name.toArray⟩, .string ⟨a.source.toArray⟩, .int .i64 a.day, .int .i64 a.till, x0, .int .i64 a.arrow, .bool a.head.neg, .string ⟨a.head.pred.toArray⟩, x1, .bool a.head.hasValue, .int .i64 a.head.value]] w fun e w' => ∃ v, e = .returned v ∧ vRule (New w) w' a v ∧ Below w.heap.size w w' := by
  obtain ⟨xa0, xc0, rfl⟩ := rows_form hx0
  have HX0 := hide hx0
  clear hx0
  obtain ⟨xa1, xc1, rfl⟩ := rows_form hx1
  have HX1 := hide hx1
  clear hx1
  go_enter Tryz.func64, Tryz.ntmps64
  have B0 : Below w.heap.size w ((w.alloc (.cells #[.string ⟨a.name.toArray⟩, .string ⟨a.source.toArray⟩, .int .i64 a.day, .int .i64 a.till, .slice xa0 a.body.length xc0, .int .i64 a.arrow, .bool a.head.neg, .string ⟨a.head.pred.toArray⟩, .slice xa1 a.head.args.length xc1, .bool a.head.hasValue, .int .i64 a.head.value] 100)).alloc (.cells #[.string ⟨#[]⟩, .string ⟨#[]⟩, .int .i64 0, .int .i64 0, .slice none 0 0, .int .i64 0, .bool false, .string ⟨#[]⟩, .slice none 0 0, .bool false, .int .i64 0] 100)) := below_two w _ _
  have G0 : Hid (w.heap.size ≤ w.heap.size) := hide (Nat.le_refl _)
  have G1 : Hid (w.heap.size ≤ w.heap.size + 1) := hide (Nat.le_succ _)
  have q0 : Hid (w.heap.size ≠ w.heap.size + 1) := hide (by omega)
  have q1 : Hid (w.heap.size + 1 ≠ w.heap.size) := hide (by omega)
  have LB0 := hide (two_new w (.cells #[.string ⟨a.name.toArray⟩, .string ⟨a.source.toArray⟩, .int .i64 a.day, .int .i64 a.till, .slice xa0 a.body.length xc0, .int .i64 a.arrow, .bool a.head.neg, .string ⟨a.head.pred.toArray⟩, .slice xa1 a.head.args.length xc1, .bool a.head.hasValue, .int .i64 a.head.value] 100) (.cells #[.string ⟨#[]⟩, .string ⟨#[]⟩, .int .i64 0, .int .i64 0, .slice none 0 0, .int .i64 0, .bool false, .string ⟨#[]⟩, .slice none 0 0, .bool false, .int .i64 0] 100)).1
  have LB1 := hide (two_new w (.cells #[.string ⟨a.name.toArray⟩, .string ⟨a.source.toArray⟩, .int .i64 a.day, .int .i64 a.till, .slice xa0 a.body.length xc0, .int .i64 a.arrow, .bool a.head.neg, .string ⟨a.head.pred.toArray⟩, .slice xa1 a.head.args.length xc1, .bool a.head.hasValue, .int .i64 a.head.value] 100) (.cells #[.string ⟨#[]⟩, .string ⟨#[]⟩, .int .i64 0, .int .i64 0, .slice none 0 0, .int .i64 0, .bool false, .string ⟨#[]⟩, .slice none 0 0, .bool false, .int .i64 0] 100)).2
  have q2 := hide (Prems.keep HX0.out (Kp.of_below (T := inner) B0))
  clear HX0
  have q3 := hide (Strs.keep HX1.out (Kp.of_below (T := [9]) B0) (by decide))
  clear HX1
  have BW := hide B0
  clear B0
  have C93 := hide (copy_CopyPremises _ _ _ q2.out hl.1 hl.2.1)
  go_wp2_with fail
  refine C93.out.mono ?_
  rintro _ w93 ⟨v93, rfl, hv, hb⟩
  have q4 := hide ((hb.block _ (loc_lt LB0.out)).trans LB0.out)
  clear LB0
  have q5 := hide ((hb.block _ (loc_lt LB1.out)).trans LB1.out)
  clear LB1
  have q6 := hide (Prems.keep q2.out (Kp.of_below (T := inner) hb))
  clear q2
  have q7 := hide (Strs.keep q3.out (Kp.of_below (T := [9]) hb) (by decide))
  clear q3
  have q8 := hv
  clear hv
  obtain ⟨q9, qa, rfl⟩ := rows_form q8
  have qb := hide (Prems.mono q8 fun g hg => Nat.le_trans BW.out.size hg)
  clear q8
  have BW93 := hide (BW.out.trans (hb.mono BW.out.size))
  clear hb C93 BW
  obtain ⟨qc, qd, qe, qf, qg, qh, qi, qj, qk, ql, qm, y94⟩ := row11 q4.out
  obtain ⟨qn, qo, qp, qq, qr, qs, qt, qu, qv, qw, qx, y95⟩ := row11 q5.out
  have x96 := q0.out
  have x97 := q1.out
  have qy := hide (Prems.keep q6.out (Kp.setLoc (T := inner) (i := 4) (v := .slice q9 a.body.length qa) q4.out (by decide)))
  clear q6
  have qz := hide (Strs.keep q7.out (Kp.setLoc (T := [9]) (i := 4) (v := .slice q9 a.body.length qa) q4.out (by decide)) (by decide))
  clear q7
  have qA := hide (Prems.keep qb.out (Kp.setLoc (T := inner) (i := 4) (v := .slice q9 a.body.length qa) q4.out (by decide)))
  clear qb
  have qB := hide (loc_set (i := 4) (v := .slice q9 a.body.length qa) q4.out)
  have qC := hide (loc_other (p := ⟨w.heap.size, 4, none⟩) (v := .slice q9 a.body.length qa) q5.out q1.out)
  clear q4 q5
  have BW98 := hide (below_set BW93.out G0.out 4 (.slice q9 a.body.length qa))
  clear BW93
  have C99 := hide (copy_LitText _ _ _ qz.out hl.2.2)
  go_wp2_with fail
  refine C99.out.mono ?_
  rintro _ w99 ⟨v99, rfl, hv, hb⟩
  clear qc qd qe qf qg qh qi qj qk ql qm y94 qn qo qp qq qr qs qt qu qv qw qx y95 x96 x97
  have qD := hide ((hb.block _ (loc_lt qB.out)).trans qB.out)
  clear qB
  have qE := hide ((hb.block _ (loc_lt qC.out)).trans qC.out)
  clear qC
  have qF := hide (Prems.keep qy.out (Kp.of_below (T := inner) hb))
  clear qy
  have qG := hide (Strs.keep qz.out (Kp.of_below (T := [9]) hb) (by decide))
  clear qz
  have qH := hide (Prems.keep qA.out (Kp.of_below (T := inner) hb))
  clear qA
  obtain ⟨qI, rfl, qJ⟩ := hv
  obtain ⟨qK, qL, rfl⟩ := rows_form qJ
  have qM := hide (Strs.mono qJ fun g hg => Nat.le_trans BW98.out.size hg)
  clear qJ
  have BW99 := hide (BW98.out.trans (hb.mono BW98.out.size))
  clear hb C99 BW98
  obtain ⟨qN, qO, qP, qQ, qR, qS, qT, qU, qV, qW, qX, y100⟩ := row11 qD.out
  obtain ⟨qY, qZ, q10, q11, q12, q13, q14, q15, q16, q17, q18, y101⟩ := row11 qE.out
  have x102 := q0.out
  have x103 := q1.out
  have q19 := hide (Prems.keep qF.out (Kp.setLoc (T := inner) (i := 6) (v := .bool a.head.neg) qD.out (by decide)))
  clear qF
  have q1a := hide (Strs.keep qG.out (Kp.setLoc (T := [9]) (i := 6) (v := .bool a.head.neg) qD.out (by decide)) (by decide))
  clear qG
  have q1b := hide (Prems.keep qH.out (Kp.setLoc (T := inner) (i := 6) (v := .bool a.head.neg) qD.out (by decide)))
  clear qH
  have q1c := hide (Strs.keep qM.out (Kp.setLoc (T := [9]) (i := 6) (v := .bool a.head.neg) qD.out (by decide)) (by decide))
  clear qM
  have q1d := hide (loc_set (i := 6) (v := .bool a.head.neg) qD.out)
  have q1e := hide (loc_other (p := ⟨w.heap.size, 6, none⟩) (v := .bool a.head.neg) qE.out q1.out)
  clear qD qE
  have BW104 := hide (below_set BW99.out G0.out 6 (.bool a.head.neg))
  clear BW99
  have q1f := hide (Prems.keep q19.out (Kp.setLoc (T := inner) (i := 7) (v := .string ⟨a.head.pred.toArray⟩) q1d.out (by decide)))
  clear q19
  have q1g := hide (Strs.keep q1a.out (Kp.setLoc (T := [9]) (i := 7) (v := .string ⟨a.head.pred.toArray⟩) q1d.out (by decide)) (by decide))
  clear q1a
  have q1h := hide (Prems.keep q1b.out (Kp.setLoc (T := inner) (i := 7) (v := .string ⟨a.head.pred.toArray⟩) q1d.out (by decide)))
  clear q1b
  have q1i := hide (Strs.keep q1c.out (Kp.setLoc (T := [9]) (i := 7) (v := .string ⟨a.head.pred.toArray⟩) q1d.out (by decide)) (by decide))
  clear q1c
  have q1j := hide (loc_set (i := 7) (v := .string ⟨a.head.pred.toArray⟩) q1d.out)
  have q1k := hide (loc_other (p := ⟨w.heap.size, 7, none⟩) (v := .string ⟨a.head.pred.toArray⟩) q1e.out q1.out)
  clear q1d q1e
  have BW105 := hide (below_set BW104.out G0.out 7 (.string ⟨a.head.pred.toArray⟩))
  clear BW104
  have q1l := hide (Prems.keep q1f.out (Kp.setLoc (T := inner) (i := 8) (v := .slice qK a.head.args.length qL) q1j.out (by decide)))
  clear q1f
  have q1m := hide (Strs.keep q1g.out (Kp.setLoc (T := [9]) (i := 8) (v := .slice qK a.head.args.length qL) q1j.out (by decide)) (by decide))
  clear q1g
  have q1n := hide (Prems.keep q1h.out (Kp.setLoc (T := inner) (i := 8) (v := .slice qK a.head.args.length qL) q1j.out (by decide)))
  clear q1h
  have q1o := hide (Strs.keep q1i.out (Kp.setLoc (T := [9]) (i := 8) (v := .slice qK a.head.args.length qL) q1j.out (by decide)) (by decide))
  clear q1i
  have q1p := hide (loc_set (i := 8) (v := .slice qK a.head.args.length qL) q1j.out)
  have q1q := hide (loc_other (p := ⟨w.heap.size, 8, none⟩) (v := .slice qK a.head.args.length qL) q1k.out q1.out)
  clear q1j q1k
  have BW106 := hide (below_set BW105.out G0.out 8 (.slice qK a.head.args.length qL))
  clear BW105
  have q1r := hide (Prems.keep q1l.out (Kp.setLoc (T := inner) (i := 9) (v := .bool a.head.hasValue) q1p.out (by decide)))
  clear q1l
  have q1s := hide (Strs.keep q1m.out (Kp.setLoc (T := [9]) (i := 9) (v := .bool a.head.hasValue) q1p.out (by decide)) (by decide))
  clear q1m
  have q1t := hide (Prems.keep q1n.out (Kp.setLoc (T := inner) (i := 9) (v := .bool a.head.hasValue) q1p.out (by decide)))
  clear q1n
  have q1u := hide (Strs.keep q1o.out (Kp.setLoc (T := [9]) (i := 9) (v := .bool a.head.hasValue) q1p.out (by decide)) (by decide))
  clear q1o
  have q1v := hide (loc_set (i := 9) (v := .bool a.head.hasValue) q1p.out)
  have q1w := hide (loc_other (p := ⟨w.heap.size, 9, none⟩) (v := .bool a.head.hasValue) q1q.out q1.out)
  clear q1p q1q
  have BW107 := hide (below_set BW106.out G0.out 9 (.bool a.head.hasValue))
  clear BW106
  have q1x := hide (Prems.keep q1r.out (Kp.setLoc (T := inner) (i := 10) (v := .int .i64 a.head.value) q1v.out (by decide)))
  clear q1r
  have q1y := hide (Strs.keep q1s.out (Kp.setLoc (T := [9]) (i := 10) (v := .int .i64 a.head.value) q1v.out (by decide)) (by decide))
  clear q1s
  have q1z := hide (Prems.keep q1t.out (Kp.setLoc (T := inner) (i := 10) (v := .int .i64 a.head.value) q1v.out (by decide)))
  clear q1t
  have q1A := hide (Strs.keep q1u.out (Kp.setLoc (T := [9]) (i := 10) (v := .int .i64 a.head.value) q1v.out (by decide)) (by decide))
  clear q1u
  have q1B := hide (loc_set (i := 10) (v := .int .i64 a.head.value) q1v.out)
  have q1C := hide (loc_other (p := ⟨w.heap.size, 10, none⟩) (v := .int .i64 a.head.value) q1w.out q1.out)
  clear q1v q1w
  have BW108 := hide (below_set BW107.out G0.out 10 (.int .i64 a.head.value))
  clear BW107
  go_wp2_with fail
  have hz := (And.intro qN (And.intro qO (And.intro qP (And.intro qQ (And.intro qR (And.intro qS (And.intro qT (And.intro qU (And.intro qV (And.intro qW (And.intro qX (And.intro y100 (And.intro qY (And.intro qZ (And.intro q10 (And.intro q11 (And.intro q12 (And.intro q13 (And.intro q14 (And.intro q15 (And.intro q16 (And.intro q17 (And.intro q18 (And.intro y101 (And.intro x102 x103)))))))))))))))))))))))))
  simp [bodyPost, results, Tryz.results64, go_sem, hz]
  have q1D := hide (Prems.keep q1x.out (Kp.setLoc (T := inner) (i := 0) (v := .string ⟨a.name.toArray⟩) q1C.out (by decide)))
  clear q1x
  have q1E := hide (Strs.keep q1y.out (Kp.setLoc (T := [9]) (i := 0) (v := .string ⟨a.name.toArray⟩) q1C.out (by decide)) (by decide))
  clear q1y
  have q1F := hide (Prems.keep q1z.out (Kp.setLoc (T := inner) (i := 0) (v := .string ⟨a.name.toArray⟩) q1C.out (by decide)))
  clear q1z
  have q1G := hide (Strs.keep q1A.out (Kp.setLoc (T := [9]) (i := 0) (v := .string ⟨a.name.toArray⟩) q1C.out (by decide)) (by decide))
  clear q1A
  have q1H := hide (loc_other (p := ⟨w.heap.size + 1, 0, none⟩) (v := .string ⟨a.name.toArray⟩) q1B.out q0.out)
  have q1I := hide (loc_set (i := 0) (v := .string ⟨a.name.toArray⟩) q1C.out)
  clear q1B q1C
  have BW109 := hide (below_set BW108.out G1.out 0 (.string ⟨a.name.toArray⟩))
  clear BW108
  have q1J := hide (Prems.keep q1D.out (Kp.setLoc (T := inner) (i := 1) (v := .string ⟨a.source.toArray⟩) q1I.out (by decide)))
  clear q1D
  have q1K := hide (Strs.keep q1E.out (Kp.setLoc (T := [9]) (i := 1) (v := .string ⟨a.source.toArray⟩) q1I.out (by decide)) (by decide))
  clear q1E
  have q1L := hide (Prems.keep q1F.out (Kp.setLoc (T := inner) (i := 1) (v := .string ⟨a.source.toArray⟩) q1I.out (by decide)))
  clear q1F
  have q1M := hide (Strs.keep q1G.out (Kp.setLoc (T := [9]) (i := 1) (v := .string ⟨a.source.toArray⟩) q1I.out (by decide)) (by decide))
  clear q1G
  have q1N := hide (loc_other (p := ⟨w.heap.size + 1, 1, none⟩) (v := .string ⟨a.source.toArray⟩) q1H.out q0.out)
  have q1O := hide (loc_set (i := 1) (v := .string ⟨a.source.toArray⟩) q1I.out)
  clear q1H q1I
  have BW110 := hide (below_set BW109.out G1.out 1 (.string ⟨a.source.toArray⟩))
  clear BW109
  have q1P := hide (Prems.keep q1J.out (Kp.setLoc (T := inner) (i := 2) (v := .int .i64 a.day) q1O.out (by decide)))
  clear q1J
  have q1Q := hide (Strs.keep q1K.out (Kp.setLoc (T := [9]) (i := 2) (v := .int .i64 a.day) q1O.out (by decide)) (by decide))
  clear q1K
  have q1R := hide (Prems.keep q1L.out (Kp.setLoc (T := inner) (i := 2) (v := .int .i64 a.day) q1O.out (by decide)))
  clear q1L
  have q1S := hide (Strs.keep q1M.out (Kp.setLoc (T := [9]) (i := 2) (v := .int .i64 a.day) q1O.out (by decide)) (by decide))
  clear q1M
  have q1T := hide (loc_other (p := ⟨w.heap.size + 1, 2, none⟩) (v := .int .i64 a.day) q1N.out q0.out)
  have q1U := hide (loc_set (i := 2) (v := .int .i64 a.day) q1O.out)
  clear q1N q1O
  have BW111 := hide (below_set BW110.out G1.out 2 (.int .i64 a.day))
  clear BW110
  have q1V := hide (Prems.keep q1P.out (Kp.setLoc (T := inner) (i := 3) (v := .int .i64 a.till) q1U.out (by decide)))
  clear q1P
  have q1W := hide (Strs.keep q1Q.out (Kp.setLoc (T := [9]) (i := 3) (v := .int .i64 a.till) q1U.out (by decide)) (by decide))
  clear q1Q
  have q1X := hide (Prems.keep q1R.out (Kp.setLoc (T := inner) (i := 3) (v := .int .i64 a.till) q1U.out (by decide)))
  clear q1R
  have q1Y := hide (Strs.keep q1S.out (Kp.setLoc (T := [9]) (i := 3) (v := .int .i64 a.till) q1U.out (by decide)) (by decide))
  clear q1S
  have q1Z := hide (loc_other (p := ⟨w.heap.size + 1, 3, none⟩) (v := .int .i64 a.till) q1T.out q0.out)
  have q20 := hide (loc_set (i := 3) (v := .int .i64 a.till) q1U.out)
  clear q1T q1U
  have BW112 := hide (below_set BW111.out G1.out 3 (.int .i64 a.till))
  clear BW111
  have q21 := hide (Prems.keep q1V.out (Kp.setLoc (T := inner) (i := 4) (v := .slice q9 a.body.length qa) q20.out (by decide)))
  clear q1V
  have q22 := hide (Strs.keep q1W.out (Kp.setLoc (T := [9]) (i := 4) (v := .slice q9 a.body.length qa) q20.out (by decide)) (by decide))
  clear q1W
  have q23 := hide (Prems.keep q1X.out (Kp.setLoc (T := inner) (i := 4) (v := .slice q9 a.body.length qa) q20.out (by decide)))
  clear q1X
  have q24 := hide (Strs.keep q1Y.out (Kp.setLoc (T := [9]) (i := 4) (v := .slice q9 a.body.length qa) q20.out (by decide)) (by decide))
  clear q1Y
  have q25 := hide (loc_other (p := ⟨w.heap.size + 1, 4, none⟩) (v := .slice q9 a.body.length qa) q1Z.out q0.out)
  have q26 := hide (loc_set (i := 4) (v := .slice q9 a.body.length qa) q20.out)
  clear q1Z q20
  have BW113 := hide (below_set BW112.out G1.out 4 (.slice q9 a.body.length qa))
  clear BW112
  have q27 := hide (Prems.keep q21.out (Kp.setLoc (T := inner) (i := 5) (v := .int .i64 a.arrow) q26.out (by decide)))
  clear q21
  have q28 := hide (Strs.keep q22.out (Kp.setLoc (T := [9]) (i := 5) (v := .int .i64 a.arrow) q26.out (by decide)) (by decide))
  clear q22
  have q29 := hide (Prems.keep q23.out (Kp.setLoc (T := inner) (i := 5) (v := .int .i64 a.arrow) q26.out (by decide)))
  clear q23
  have q2a := hide (Strs.keep q24.out (Kp.setLoc (T := [9]) (i := 5) (v := .int .i64 a.arrow) q26.out (by decide)) (by decide))
  clear q24
  have q2b := hide (loc_other (p := ⟨w.heap.size + 1, 5, none⟩) (v := .int .i64 a.arrow) q25.out q0.out)
  have q2c := hide (loc_set (i := 5) (v := .int .i64 a.arrow) q26.out)
  clear q25 q26
  have BW114 := hide (below_set BW113.out G1.out 5 (.int .i64 a.arrow))
  clear BW113
  have q2d := hide (Prems.keep q27.out (Kp.setLoc (T := inner) (i := 6) (v := .bool a.head.neg) q2c.out (by decide)))
  clear q27
  have q2e := hide (Strs.keep q28.out (Kp.setLoc (T := [9]) (i := 6) (v := .bool a.head.neg) q2c.out (by decide)) (by decide))
  clear q28
  have q2f := hide (Prems.keep q29.out (Kp.setLoc (T := inner) (i := 6) (v := .bool a.head.neg) q2c.out (by decide)))
  clear q29
  have q2g := hide (Strs.keep q2a.out (Kp.setLoc (T := [9]) (i := 6) (v := .bool a.head.neg) q2c.out (by decide)) (by decide))
  clear q2a
  have q2h := hide (loc_other (p := ⟨w.heap.size + 1, 6, none⟩) (v := .bool a.head.neg) q2b.out q0.out)
  have q2i := hide (loc_set (i := 6) (v := .bool a.head.neg) q2c.out)
  clear q2b q2c
  have BW115 := hide (below_set BW114.out G1.out 6 (.bool a.head.neg))
  clear BW114
  have q2j := hide (Prems.keep q2d.out (Kp.setLoc (T := inner) (i := 7) (v := .string ⟨a.head.pred.toArray⟩) q2i.out (by decide)))
  clear q2d
  have q2k := hide (Strs.keep q2e.out (Kp.setLoc (T := [9]) (i := 7) (v := .string ⟨a.head.pred.toArray⟩) q2i.out (by decide)) (by decide))
  clear q2e
  have q2l := hide (Prems.keep q2f.out (Kp.setLoc (T := inner) (i := 7) (v := .string ⟨a.head.pred.toArray⟩) q2i.out (by decide)))
  clear q2f
  have q2m := hide (Strs.keep q2g.out (Kp.setLoc (T := [9]) (i := 7) (v := .string ⟨a.head.pred.toArray⟩) q2i.out (by decide)) (by decide))
  clear q2g
  have q2n := hide (loc_other (p := ⟨w.heap.size + 1, 7, none⟩) (v := .string ⟨a.head.pred.toArray⟩) q2h.out q0.out)
  have q2o := hide (loc_set (i := 7) (v := .string ⟨a.head.pred.toArray⟩) q2i.out)
  clear q2h q2i
  have BW116 := hide (below_set BW115.out G1.out 7 (.string ⟨a.head.pred.toArray⟩))
  clear BW115
  have q2p := hide (Prems.keep q2j.out (Kp.setLoc (T := inner) (i := 8) (v := .slice qK a.head.args.length qL) q2o.out (by decide)))
  clear q2j
  have q2q := hide (Strs.keep q2k.out (Kp.setLoc (T := [9]) (i := 8) (v := .slice qK a.head.args.length qL) q2o.out (by decide)) (by decide))
  clear q2k
  have q2r := hide (Prems.keep q2l.out (Kp.setLoc (T := inner) (i := 8) (v := .slice qK a.head.args.length qL) q2o.out (by decide)))
  clear q2l
  have q2s := hide (Strs.keep q2m.out (Kp.setLoc (T := [9]) (i := 8) (v := .slice qK a.head.args.length qL) q2o.out (by decide)) (by decide))
  clear q2m
  have q2t := hide (loc_other (p := ⟨w.heap.size + 1, 8, none⟩) (v := .slice qK a.head.args.length qL) q2n.out q0.out)
  have q2u := hide (loc_set (i := 8) (v := .slice qK a.head.args.length qL) q2o.out)
  clear q2n q2o
  have BW117 := hide (below_set BW116.out G1.out 8 (.slice qK a.head.args.length qL))
  clear BW116
  have q2v := hide (Prems.keep q2p.out (Kp.setLoc (T := inner) (i := 9) (v := .bool a.head.hasValue) q2u.out (by decide)))
  clear q2p
  have q2w := hide (Strs.keep q2q.out (Kp.setLoc (T := [9]) (i := 9) (v := .bool a.head.hasValue) q2u.out (by decide)) (by decide))
  clear q2q
  have q2x := hide (Prems.keep q2r.out (Kp.setLoc (T := inner) (i := 9) (v := .bool a.head.hasValue) q2u.out (by decide)))
  clear q2r
  have q2y := hide (Strs.keep q2s.out (Kp.setLoc (T := [9]) (i := 9) (v := .bool a.head.hasValue) q2u.out (by decide)) (by decide))
  clear q2s
  have q2z := hide (loc_other (p := ⟨w.heap.size + 1, 9, none⟩) (v := .bool a.head.hasValue) q2t.out q0.out)
  have q2A := hide (loc_set (i := 9) (v := .bool a.head.hasValue) q2u.out)
  clear q2t q2u
  have BW118 := hide (below_set BW117.out G1.out 9 (.bool a.head.hasValue))
  clear BW117
  have q2B := hide (Prems.keep q2v.out (Kp.setLoc (T := inner) (i := 10) (v := .int .i64 a.head.value) q2A.out (by decide)))
  clear q2v
  have q2C := hide (Strs.keep q2w.out (Kp.setLoc (T := [9]) (i := 10) (v := .int .i64 a.head.value) q2A.out (by decide)) (by decide))
  clear q2w
  have q2D := hide (Prems.keep q2x.out (Kp.setLoc (T := inner) (i := 10) (v := .int .i64 a.head.value) q2A.out (by decide)))
  clear q2x
  have q2E := hide (Strs.keep q2y.out (Kp.setLoc (T := [9]) (i := 10) (v := .int .i64 a.head.value) q2A.out (by decide)) (by decide))
  clear q2y
  have q2F := hide (loc_other (p := ⟨w.heap.size + 1, 10, none⟩) (v := .int .i64 a.head.value) q2z.out q0.out)
  have q2G := hide (loc_set (i := 10) (v := .int .i64 a.head.value) q2A.out)
  clear q2z q2A
  have BW119 := hide (below_set BW118.out G1.out 10 (.int .i64 a.head.value))
  clear BW118
  exact ⟨⟨_, _, rfl, q2D.out, q2E.out⟩, BW119.out⟩

set_option maxRecDepth 100000 in
set_option maxHeartbeats 3200000 in
theorem copy_CopyRuleTexts {Z : Nat → Prop} (l : List RuleM) (va : Value) (w : World) (ha : Rows Z 100 11 (cRule Z) w l va) (hl : l.length ≤ 1000000000) (hi : ∀ a, a ∈ l → SmallRule a) :
    Calls Tryz.prog 42 #[va] w fun e w' => ∃ v, e = .returned v ∧ Rows (New w) 100 11 (cRule (New w)) w' l v ∧ Below w.heap.size w w' := by
  obtain ⟨iM, hiM, zM0, zM1, zM2⟩ := info_parts' info_rule
  have HA := hide ha
  obtain ⟨aa, ca, rfl⟩ := rows_form ha
  clear ha
  go_enter Tryz.func42, Tryz.ntmps42
  go_wp2_with fail
  go_loopw [3, 4] (fun x z wr => ∃ k : Nat, k ≤ l.length ∧ z = .int .i64 k ∧ Hid (Rows (New w) 100 11 (cRule (New w)) wr (l.take k) x) ∧ Hid (Below w.heap.size w wr)) (fun _ z _ => l.length - (intOf z).toNat)
  case atStart => exact ⟨0, by omega, rfl, hide (Rows.nil _ _ _ _ _), hide (Below.refl _ w)⟩
  case round =>
    obtain ⟨k, hk, rfl, HV, HW⟩ := hrel
    by_cases hlt : k < l.length
    · obtain ⟨t, ht⟩ : ∃ t, l[k]? = some t := ⟨l[k], by simp [hlt]⟩
      obtain ⟨ga, xa, ya, e1, _, ⟨av0, av1, rfl, hs0, hs1⟩, h2⟩ := (HA.out.keep (T := [100]) (Kp.of_below HW.out) (by decide) (fun _ _ h => h.keep (Kp.of_below HW.out))).at ht
      simp only [Value.slice.injEq] at e1
      obtain ⟨rfl, _, rfl⟩ := e1
      have a0 : wr.cell? ⟨ga, k * 11, none⟩ = some (.string ⟨t.name.toArray⟩) := by have := h2 0 _ rfl; simpa using this
      have a1 : wr.cell? ⟨ga, k * 11 + 1, none⟩ = some (.string ⟨t.source.toArray⟩) := by have := h2 1 _ rfl; simpa using this
      have a2 : wr.cell? ⟨ga, k * 11 + 2, none⟩ = some (.int .i64 t.day) := by have := h2 2 _ rfl; simpa using this
      have a3 : wr.cell? ⟨ga, k * 11 + 3, none⟩ = some (.int .i64 t.till) := by have := h2 3 _ rfl; simpa using this
      have a4 : wr.cell? ⟨ga, k * 11 + 4, none⟩ = some (av0) := by have := h2 4 _ rfl; simpa using this
      have a5 : wr.cell? ⟨ga, k * 11 + 5, none⟩ = some (.int .i64 t.arrow) := by have := h2 5 _ rfl; simpa using this
      have a6 : wr.cell? ⟨ga, k * 11 + 6, none⟩ = some (.bool t.head.neg) := by have := h2 6 _ rfl; simpa using this
      have a7 : wr.cell? ⟨ga, k * 11 + 7, none⟩ = some (.string ⟨t.head.pred.toArray⟩) := by have := h2 7 _ rfl; simpa using this
      have a8 : wr.cell? ⟨ga, k * 11 + 8, none⟩ = some (av1) := by have := h2 8 _ rfl; simpa using this
      have a9 : wr.cell? ⟨ga, k * 11 + 9, none⟩ = some (.bool t.head.hasValue) := by have := h2 9 _ rfl; simpa using this
      have a10 : wr.cell? ⟨ga, k * 11 + 10, none⟩ = some (.int .i64 t.head.value) := by have := h2 10 _ rfl; simpa using this
      have hit := hi t (List.mem_of_getElem? ht)
      have HS := hide (take_snoc ht)
      obtain ⟨xs, hrow, hold⟩ := HV.out
      have hln : (l.take k).length = k := by simp; omega
      obtain ⟨ta, tc, rfl⟩ := slice_form hrow.1
      rw [hln] at hrow
      have HROW := hide hrow
      have HOLD := hide hold
      have C := hide (copy_RuleText t av0 av1 wr hs0 hs1 hit)
      clear h2 ht hrow hold HV hit hs0 hs1
      rw [hln]
      go_wp2_with fail
      refine C.out.mono ?_
      rintro _ w2 ⟨v2, rfl, ⟨u0, u1, rfl, hv0, hv1⟩, hb⟩
      obtain ⟨p0, r0, rfl⟩ := rows_form hv0
      have HV0 := hide (Prems.mono hv0 fun g hg => Nat.le_trans HW.out.size hg)
      obtain ⟨p1, r1, rfl⟩ := rows_form hv1
      have HV1 := hide (Strs.mono hv1 fun g hg => Nat.le_trans HW.out.size hg)
      have HROW2 := hide (HROW.out.keep (Kp.of_below (T := [100]) hb) (by decide))
      have HC : Hid (∀ w0 w' b ys, Kp inner (New w) w0 w' → cRule (New w) w0 b ys → cRule (New w) w' b ys) := hide (fun _ _ _ _ hk h => h.keep hk)
      have HOLD2 : Hid (∀ i b, (l.take k)[i]? = some b → cRule (New w) w2 b ((xs.drop (i * 11)).take 11)) := hide fun i b hi => HC.out _ _ _ _ (Kp.of_below hb) (HOLD.out i b hi)
      have HW2 := hide (HW.out.trans (hb.mono HW.out.size))
      have HZ : Hid (∀ g, w2.heap.size ≤ g → New w g) := hide fun g hg => Nat.le_trans HW2.out.size hg
      have HSZ := hide HW2.out.size
      clear hb hv0 hv1 HROW HOLD HW C
      go_wp2_with (at_builtin; go_must (refine wpList_append_two _ rfl _ _ 27 rfl 0 100 iM _ 11 144 Tryz.underlying27 hiM zM0 zM1 zM2 rfl (by decide) _ _ _ rfl (HROW2.out.1.alloc _) ⟨w2.heap.size, 0, none⟩ 1 [.string ⟨t.name.toArray⟩, .string ⟨t.source.toArray⟩, .int .i64 t.day, .int .i64 t.till, .slice p0 t.body.length r0, .int .i64 t.arrow, .bool t.head.neg, .string ⟨t.head.pred.toArray⟩, .slice p1 t.head.args.length r1, .bool t.head.hasValue, .int .i64 t.head.value] rfl rfl (news_at rfl) (by simp [Value.oneCell']) (by unfold maxLen; omega) (by omega) (Nat.zero_le _) ?_))
      intro g cap w4 hown hg
      obtain ⟨p1, p2⟩ := put_more (T := inner) (B := w.heap.size) (a := t) rfl (by rw [hln]; exact HROW2.out) HOLD2.out ⟨_, _, rfl, HV0.out, HV1.out⟩ rfl HZ.out HC.out (by decide) (fun g hg => hg) HSZ.out (by rw [hln]; exact hown) hg
      rw [HS.out, hln] at p1
      have P1 := hide p1
      have P2 := hide (HW2.out.trans p2)
      clear p1 p2 hown hg HROW2 HOLD2 HW2 HZ HSZ HC
      go_wp2_with fail
      go_roundw
      case rel => exact ⟨k + 1, by omega, by go_num, P1, P2⟩
      case measure => simp [intOf]; omega
    · have ek : k = l.length := by omega
      subst ek
      rw [List.take_length] at HV
      go_wp2_with fail
      go_ret
      exact ⟨_, rfl, HV.out, HW.out⟩

end Go.Proofs.YthnjmfkiohgkkaaGreatDoor.Sy

namespace Go.Proofs.YthnjmfkiohgkkaaGreatDoor.Sy
open Go.RowKit

theorem nine_kp {T : List Nat} {Z : Nat → Prop} {W : World} {q : Nat} {v0 v1 v2 v3 v4 v5 v6 v7 v8 : Value} (hz : ∀ g, Z g → g ≠ q) : Kp T Z W (((((((((W.setCell ⟨q, 0, none⟩ v0).setCell ⟨q, 1, none⟩ v1).setCell ⟨q, 2, none⟩ v2).setCell ⟨q, 3, none⟩ v3).setCell ⟨q, 4, none⟩ v4).setCell ⟨q, 5, none⟩ v5).setCell ⟨q, 6, none⟩ v6).setCell ⟨q, 7, none⟩ v7).setCell ⟨q, 8, none⟩ v8) :=
  fun g _ _ hZ hg _ => (nine_other (hz g hZ)).trans hg
theorem nine_below {B : Nat} {w W : World} {q : Nat} {v0 v1 v2 v3 v4 v5 v6 v7 v8 : Value} (h : Below B w W) (hq : B ≤ q) : Below B w (((((((((W.setCell ⟨q, 0, none⟩ v0).setCell ⟨q, 1, none⟩ v1).setCell ⟨q, 2, none⟩ v2).setCell ⟨q, 3, none⟩ v3).setCell ⟨q, 4, none⟩ v4).setCell ⟨q, 5, none⟩ v5).setCell ⟨q, 6, none⟩ v6).setCell ⟨q, 7, none⟩ v7).setCell ⟨q, 8, none⟩ v8) :=
  below_set (below_set (below_set (below_set (below_set (below_set (below_set (below_set (below_set h hq 0 v0) hq 1 v1) hq 2 v2) hq 3 v3) hq 4 v4) hq 5 v5) hq 6 v6) hq 7 v7) hq 8 v8

set_option maxRecDepth 100000 in
set_option maxHeartbeats 3200000 in
theorem copy_statute {R : Nat} {st : St9} {S : StatM} (w : World) (hS : SRep R w st S) (hs : SmallS S) :
    Calls Tryz.prog 17 #[St9.agg st] w fun e w' => ∃ st', e = .returned (St9.agg st') ∧ SRep (w.heap.size + 1) w' st' S ∧ Below w.heap.size w w' := by
  obtain ⟨a1, c1, a2, c2, a3, c3, a4, c4, a5, c5, a6, c6, a7, c7, a8, c8, rfl⟩ := hS.form
  have HS := hide hS
  clear hS
  simp only [St9.agg]
  go_enter Tryz.func17, Tryz.ntmps17
  have B0 : Below w.heap.size w ((w.alloc (.cells #[.string ⟨S.title.toArray⟩, .slice a1 S.kinds.length c1, .slice a2 S.members.length c2, .slice a3 S.preds.length c3, .slice a4 S.classes.length c4, .slice a5 S.sources.length c5, .slice a6 S.rules.length c6, .slice a7 S.excepts.length c7, .slice a8 S.totals.length c8] 31)).alloc (.cells #[.string ⟨#[]⟩, .slice none 0 0, .slice none 0 0, .slice none 0 0, .slice none 0 0, .slice none 0 0, .slice none 0 0, .slice none 0 0, .slice none 0 0] 31)) := below_two w _ _
  have G0 : Hid (w.heap.size ≤ w.heap.size) := hide (Nat.le_refl _)
  have G1 : Hid (w.heap.size ≤ w.heap.size + 1) := hide (Nat.le_succ _)
  have q0 : Hid (w.heap.size ≠ w.heap.size + 1) := hide (by omega)
  have q1 : Hid (w.heap.size + 1 ≠ w.heap.size) := hide (by omega)
  have LB0 := hide (two_new w (.cells #[.string ⟨S.title.toArray⟩, .slice a1 S.kinds.length c1, .slice a2 S.members.length c2, .slice a3 S.preds.length c3, .slice a4 S.classes.length c4, .slice a5 S.sources.length c5, .slice a6 S.rules.length c6, .slice a7 S.excepts.length c7, .slice a8 S.totals.length c8] 31) (.cells #[.string ⟨#[]⟩, .slice none 0 0, .slice none 0 0, .slice none 0 0, .slice none 0 0, .slice none 0 0, .slice none 0 0, .slice none 0 0, .slice none 0 0] 31)).1
  have LB1 := hide (two_new w (.cells #[.string ⟨S.title.toArray⟩, .slice a1 S.kinds.length c1, .slice a2 S.members.length c2, .slice a3 S.preds.length c3, .slice a4 S.classes.length c4, .slice a5 S.sources.length c5, .slice a6 S.rules.length c6, .slice a7 S.excepts.length c7, .slice a8 S.totals.length c8] 31) (.cells #[.string ⟨#[]⟩, .slice none 0 0, .slice none 0 0, .slice none 0 0, .slice none 0 0, .slice none 0 0, .slice none 0 0, .slice none 0 0, .slice none 0 0] 31)).2
  have q2 := hide (HS.out.keep (Kp.of_below (T := allT) B0))
  clear HS
  have BW := hide B0
  clear B0
  have C1 := hide (copy_CopyStrings _ _ _ q2.out.kinds hs.kinds)
  go_wp2_with fail
  refine C1.out.mono ?_
  rintro _ w1 ⟨v1, rfl, hv, hb⟩
  have q3 := hide ((hb.block _ (loc_lt LB0.out)).trans LB0.out)
  clear LB0
  have q4 := hide ((hb.block _ (loc_lt LB1.out)).trans LB1.out)
  clear LB1
  have q5 := hide (q2.out.keep (Kp.of_below (T := allT) hb))
  clear q2
  obtain ⟨p1, r1, rfl⟩ := rows_form hv
  have V1 := hide (Strs.within (Z' := (w.heap.size + 1 < ·)) hv fun g _ hg => by have h2 : _ ≤ g := hg; simp at h2; omega)
  have KB : Hid (∀ g, (Value.slice p1 S.kinds.length r1).ownBlock = some g → g < w1.heap.size) := hide fun g hg => by obtain ⟨xs, ho, _⟩ := hv; exact (ho.1.lt g hg).2
  have SZ : Hid (w1.heap.size ≤ w1.heap.size) := hide (Nat.le_refl _)
  have SW : Hid (w.heap.size + 2 ≤ w1.heap.size) := hide (by have := hb.size; simp at this; omega)
  have BW1 := hide (BW.out.trans (hb.mono BW.out.size))
  clear hb hv C1 BW
  obtain ⟨q6, q7, q8, q9, qa, qb, qc, qd, qe, y2⟩ := row9 q3.out
  have qf := hide (q5.out.keep (Kp.setLoc (T := allT) (i := 1) (v := .slice p1 S.kinds.length r1) q3.out (by decide)))
  clear q5
  have qg := hide (Rows.keep V1.out (Kp.setLoc (T := allT) (i := 1) (v := .slice p1 S.kinds.length r1) q3.out (by decide)) (by decide) (fun _ _ h => h))
  clear V1
  have qh := hide (loc_set (i := 1) (v := .slice p1 S.kinds.length r1) q3.out)
  have qi := hide (loc_other (p := ⟨w.heap.size, 1, none⟩) (v := .slice p1 S.kinds.length r1) q4.out q1.out)
  clear q3 q4
  have BW3 := hide (below_set BW1.out G0.out 1 (.slice p1 S.kinds.length r1))
  clear BW1
  have SZ : Hid (w1.heap.size ≤ (((w1).setCell ⟨w.heap.size, 1, none⟩ (.slice p1 S.kinds.length r1))).heap.size) := hide (Nat.le_trans SZ.out (by simp))
  have C4 := hide (copy_CopyMembers _ _ _ qf.out.members hs.members)
  go_wp2_with fail
  refine C4.out.mono ?_
  rintro _ w4 ⟨v4, rfl, hv, hb⟩
  clear q6 q7 q8 q9 qa qb qc qd qe y2
  have qj := hide ((hb.block _ (loc_lt qh.out)).trans qh.out)
  clear qh
  have qk := hide ((hb.block _ (loc_lt qi.out)).trans qi.out)
  clear qi
  have ql := hide (qf.out.keep (Kp.of_below (T := allT) hb))
  clear qf
  have qm := hide (Rows.keep qg.out (Kp.of_below (T := allT) hb) (by decide) (fun _ _ h => h))
  clear qg
  obtain ⟨p2, r2, rfl⟩ := rows_form hv
  have HZ : ∀ g, New _ g → Beh (w.heap.size + 1) (.slice p1 S.kinds.length r1) g := fun g (hg : _ ≤ g) => ⟨by have h1 := SZ.out; have h2 := SW.out; have h3 := Nat.le_trans h1 hg; omega, fun h => by have h1 := KB.out g h.symm; have h2 := Nat.le_trans SZ.out hg; omega⟩
  have V2 := hide (Rows.mono hv HZ fun _ _ h => h)
  clear HZ
  have SZ : Hid (w1.heap.size ≤ w4.heap.size) := hide (Nat.le_trans SZ.out hb.size)
  have BW4 := hide (BW3.out.trans (hb.mono BW3.out.size))
  clear hb hv C4 BW3
  obtain ⟨qn, qo, qp, qq, qr, qs, qt, qu, qv, y5⟩ := row9 qj.out
  have qw := hide (ql.out.keep (Kp.setLoc (T := allT) (i := 2) (v := .slice p2 S.members.length r2) qj.out (by decide)))
  clear ql
  have qx := hide (Rows.keep qm.out (Kp.setLoc (T := allT) (i := 2) (v := .slice p2 S.members.length r2) qj.out (by decide)) (by decide) (fun _ _ h => h))
  clear qm
  have qy := hide (Rows.keep V2.out (Kp.setLoc (T := allT) (i := 2) (v := .slice p2 S.members.length r2) qj.out (by decide)) (by decide) (fun _ _ h => h))
  clear V2
  have qz := hide (loc_set (i := 2) (v := .slice p2 S.members.length r2) qj.out)
  have qA := hide (loc_other (p := ⟨w.heap.size, 2, none⟩) (v := .slice p2 S.members.length r2) qk.out q1.out)
  clear qj qk
  have BW6 := hide (below_set BW4.out G0.out 2 (.slice p2 S.members.length r2))
  clear BW4
  have SZ : Hid (w1.heap.size ≤ (((w4).setCell ⟨w.heap.size, 2, none⟩ (.slice p2 S.members.length r2))).heap.size) := hide (Nat.le_trans SZ.out (by simp))
  have C7 := hide (copy_CopyPreds _ _ _ qw.out.preds hs.preds hs.preds')
  go_wp2_with fail
  refine C7.out.mono ?_
  rintro _ w7 ⟨v7, rfl, hv, hb⟩
  clear qn qo qp qq qr qs qt qu qv y5
  have qB := hide ((hb.block _ (loc_lt qz.out)).trans qz.out)
  clear qz
  have qC := hide ((hb.block _ (loc_lt qA.out)).trans qA.out)
  clear qA
  have qD := hide (qw.out.keep (Kp.of_below (T := allT) hb))
  clear qw
  have qE := hide (Rows.keep qx.out (Kp.of_below (T := allT) hb) (by decide) (fun _ _ h => h))
  clear qx
  have qF := hide (Rows.keep qy.out (Kp.of_below (T := allT) hb) (by decide) (fun _ _ h => h))
  clear qy
  obtain ⟨p3, r3, rfl⟩ := rows_form hv
  have HZ : ∀ g, New _ g → Beh (w.heap.size + 1) (.slice p1 S.kinds.length r1) g := fun g (hg : _ ≤ g) => ⟨by have h1 := SZ.out; have h2 := SW.out; have h3 := Nat.le_trans h1 hg; omega, fun h => by have h1 := KB.out g h.symm; have h2 := Nat.le_trans SZ.out hg; omega⟩
  have V3 := hide (Rows.mono hv HZ fun _ _ h => h.mono HZ)
  clear HZ
  have SZ : Hid (w1.heap.size ≤ w7.heap.size) := hide (Nat.le_trans SZ.out hb.size)
  have BW7 := hide (BW6.out.trans (hb.mono BW6.out.size))
  clear hb hv C7 BW6
  obtain ⟨qG, qH, qI, qJ, qK, qL, qM, qN, qO, y8⟩ := row9 qB.out
  have qP := hide (qD.out.keep (Kp.setLoc (T := allT) (i := 3) (v := .slice p3 S.preds.length r3) qB.out (by decide)))
  clear qD
  have qQ := hide (Rows.keep qE.out (Kp.setLoc (T := allT) (i := 3) (v := .slice p3 S.preds.length r3) qB.out (by decide)) (by decide) (fun _ _ h => h))
  clear qE
  have qR := hide (Rows.keep qF.out (Kp.setLoc (T := allT) (i := 3) (v := .slice p3 S.preds.length r3) qB.out (by decide)) (by decide) (fun _ _ h => h))
  clear qF
  have qS := hide (Rows.keep V3.out (Kp.setLoc (T := allT) (i := 3) (v := .slice p3 S.preds.length r3) qB.out (by decide)) (by decide) (fun _ _ h => h.keep (inner_all (Kp.setLoc (T := allT) (i := 3) (v := .slice p3 S.preds.length r3) qB.out (by decide)) (by decide))))
  clear V3
  have qT := hide (loc_set (i := 3) (v := .slice p3 S.preds.length r3) qB.out)
  have qU := hide (loc_other (p := ⟨w.heap.size, 3, none⟩) (v := .slice p3 S.preds.length r3) qC.out q1.out)
  clear qB qC
  have BW9 := hide (below_set BW7.out G0.out 3 (.slice p3 S.preds.length r3))
  clear BW7
  have SZ : Hid (w1.heap.size ≤ (((w7).setCell ⟨w.heap.size, 3, none⟩ (.slice p3 S.preds.length r3))).heap.size) := hide (Nat.le_trans SZ.out (by simp))
  have C10 := hide (copy_CopyStringLists _ _ _ qP.out.classes hs.classes hs.classes')
  go_wp2_with fail
  refine C10.out.mono ?_
  rintro _ w10 ⟨v10, rfl, hv, hb⟩
  clear qG qH qI qJ qK qL qM qN qO y8
  have qV := hide ((hb.block _ (loc_lt qT.out)).trans qT.out)
  clear qT
  have qW := hide ((hb.block _ (loc_lt qU.out)).trans qU.out)
  clear qU
  have qX := hide (qP.out.keep (Kp.of_below (T := allT) hb))
  clear qP
  have qY := hide (Rows.keep qQ.out (Kp.of_below (T := allT) hb) (by decide) (fun _ _ h => h))
  clear qQ
  have qZ := hide (Rows.keep qR.out (Kp.of_below (T := allT) hb) (by decide) (fun _ _ h => h))
  clear qR
  have q10 := hide (Rows.keep qS.out (Kp.of_below (T := allT) hb) (by decide) (fun _ _ h => h.keep (inner_all (Kp.of_below (T := allT) hb) (by decide))))
  clear qS
  obtain ⟨p4, r4, rfl⟩ := rows_form hv
  have HZ : ∀ g, New _ g → Beh (w.heap.size + 1) (.slice p1 S.kinds.length r1) g := fun g (hg : _ ≤ g) => ⟨by have h1 := SZ.out; have h2 := SW.out; have h3 := Nat.le_trans h1 hg; omega, fun h => by have h1 := KB.out g h.symm; have h2 := Nat.le_trans SZ.out hg; omega⟩
  have V4 := hide (Rows.mono hv HZ fun _ _ h => h.mono HZ)
  clear HZ
  have SZ : Hid (w1.heap.size ≤ w10.heap.size) := hide (Nat.le_trans SZ.out hb.size)
  have BW10 := hide (BW9.out.trans (hb.mono BW9.out.size))
  clear hb hv C10 BW9
  obtain ⟨q11, q12, q13, q14, q15, q16, q17, q18, q19, y11⟩ := row9 qV.out
  have q1a := hide (qX.out.keep (Kp.setLoc (T := allT) (i := 4) (v := .slice p4 S.classes.length r4) qV.out (by decide)))
  clear qX
  have q1b := hide (Rows.keep qY.out (Kp.setLoc (T := allT) (i := 4) (v := .slice p4 S.classes.length r4) qV.out (by decide)) (by decide) (fun _ _ h => h))
  clear qY
  have q1c := hide (Rows.keep qZ.out (Kp.setLoc (T := allT) (i := 4) (v := .slice p4 S.classes.length r4) qV.out (by decide)) (by decide) (fun _ _ h => h))
  clear qZ
  have q1d := hide (Rows.keep q10.out (Kp.setLoc (T := allT) (i := 4) (v := .slice p4 S.classes.length r4) qV.out (by decide)) (by decide) (fun _ _ h => h.keep (inner_all (Kp.setLoc (T := allT) (i := 4) (v := .slice p4 S.classes.length r4) qV.out (by decide)) (by decide))))
  clear q10
  have q1e := hide (Rows.keep V4.out (Kp.setLoc (T := allT) (i := 4) (v := .slice p4 S.classes.length r4) qV.out (by decide)) (by decide) (fun _ _ h => h.keep (inner_all (Kp.setLoc (T := allT) (i := 4) (v := .slice p4 S.classes.length r4) qV.out (by decide)) (by decide))))
  clear V4
  have q1f := hide (loc_set (i := 4) (v := .slice p4 S.classes.length r4) qV.out)
  have q1g := hide (loc_other (p := ⟨w.heap.size, 4, none⟩) (v := .slice p4 S.classes.length r4) qW.out q1.out)
  clear qV qW
  have BW12 := hide (below_set BW10.out G0.out 4 (.slice p4 S.classes.length r4))
  clear BW10
  have SZ : Hid (w1.heap.size ≤ (((w10).setCell ⟨w.heap.size, 4, none⟩ (.slice p4 S.classes.length r4))).heap.size) := hide (Nat.le_trans SZ.out (by simp))
  have C13 := hide (copy_CopySources _ _ _ q1a.out.sources hs.sources)
  go_wp2_with fail
  refine C13.out.mono ?_
  rintro _ w13 ⟨v13, rfl, hv, hb⟩
  clear q11 q12 q13 q14 q15 q16 q17 q18 q19 y11
  have q1h := hide ((hb.block _ (loc_lt q1f.out)).trans q1f.out)
  clear q1f
  have q1i := hide ((hb.block _ (loc_lt q1g.out)).trans q1g.out)
  clear q1g
  have q1j := hide (q1a.out.keep (Kp.of_below (T := allT) hb))
  clear q1a
  have q1k := hide (Rows.keep q1b.out (Kp.of_below (T := allT) hb) (by decide) (fun _ _ h => h))
  clear q1b
  have q1l := hide (Rows.keep q1c.out (Kp.of_below (T := allT) hb) (by decide) (fun _ _ h => h))
  clear q1c
  have q1m := hide (Rows.keep q1d.out (Kp.of_below (T := allT) hb) (by decide) (fun _ _ h => h.keep (inner_all (Kp.of_below (T := allT) hb) (by decide))))
  clear q1d
  have q1n := hide (Rows.keep q1e.out (Kp.of_below (T := allT) hb) (by decide) (fun _ _ h => h.keep (inner_all (Kp.of_below (T := allT) hb) (by decide))))
  clear q1e
  obtain ⟨p5, r5, rfl⟩ := rows_form hv
  have HZ : ∀ g, New _ g → Beh (w.heap.size + 1) (.slice p1 S.kinds.length r1) g := fun g (hg : _ ≤ g) => ⟨by have h1 := SZ.out; have h2 := SW.out; have h3 := Nat.le_trans h1 hg; omega, fun h => by have h1 := KB.out g h.symm; have h2 := Nat.le_trans SZ.out hg; omega⟩
  have V5 := hide (Rows.mono hv HZ fun _ _ h => h)
  clear HZ
  have SZ : Hid (w1.heap.size ≤ w13.heap.size) := hide (Nat.le_trans SZ.out hb.size)
  have BW13 := hide (BW12.out.trans (hb.mono BW12.out.size))
  clear hb hv C13 BW12
  obtain ⟨q1o, q1p, q1q, q1r, q1s, q1t, q1u, q1v, q1w, y14⟩ := row9 q1h.out
  have q1x := hide (q1j.out.keep (Kp.setLoc (T := allT) (i := 5) (v := .slice p5 S.sources.length r5) q1h.out (by decide)))
  clear q1j
  have q1y := hide (Rows.keep q1k.out (Kp.setLoc (T := allT) (i := 5) (v := .slice p5 S.sources.length r5) q1h.out (by decide)) (by decide) (fun _ _ h => h))
  clear q1k
  have q1z := hide (Rows.keep q1l.out (Kp.setLoc (T := allT) (i := 5) (v := .slice p5 S.sources.length r5) q1h.out (by decide)) (by decide) (fun _ _ h => h))
  clear q1l
  have q1A := hide (Rows.keep q1m.out (Kp.setLoc (T := allT) (i := 5) (v := .slice p5 S.sources.length r5) q1h.out (by decide)) (by decide) (fun _ _ h => h.keep (inner_all (Kp.setLoc (T := allT) (i := 5) (v := .slice p5 S.sources.length r5) q1h.out (by decide)) (by decide))))
  clear q1m
  have q1B := hide (Rows.keep q1n.out (Kp.setLoc (T := allT) (i := 5) (v := .slice p5 S.sources.length r5) q1h.out (by decide)) (by decide) (fun _ _ h => h.keep (inner_all (Kp.setLoc (T := allT) (i := 5) (v := .slice p5 S.sources.length r5) q1h.out (by decide)) (by decide))))
  clear q1n
  have q1C := hide (Rows.keep V5.out (Kp.setLoc (T := allT) (i := 5) (v := .slice p5 S.sources.length r5) q1h.out (by decide)) (by decide) (fun _ _ h => h))
  clear V5
  have q1D := hide (loc_set (i := 5) (v := .slice p5 S.sources.length r5) q1h.out)
  have q1E := hide (loc_other (p := ⟨w.heap.size, 5, none⟩) (v := .slice p5 S.sources.length r5) q1i.out q1.out)
  clear q1h q1i
  have BW15 := hide (below_set BW13.out G0.out 5 (.slice p5 S.sources.length r5))
  clear BW13
  have SZ : Hid (w1.heap.size ≤ (((w13).setCell ⟨w.heap.size, 5, none⟩ (.slice p5 S.sources.length r5))).heap.size) := hide (Nat.le_trans SZ.out (by simp))
  have C16 := hide (copy_CopyRuleTexts _ _ _ q1x.out.rules hs.rules hs.rules')
  go_wp2_with fail
  refine C16.out.mono ?_
  rintro _ w16 ⟨v16, rfl, hv, hb⟩
  clear q1o q1p q1q q1r q1s q1t q1u q1v q1w y14
  have q1F := hide ((hb.block _ (loc_lt q1D.out)).trans q1D.out)
  clear q1D
  have q1G := hide ((hb.block _ (loc_lt q1E.out)).trans q1E.out)
  clear q1E
  have q1H := hide (q1x.out.keep (Kp.of_below (T := allT) hb))
  clear q1x
  have q1I := hide (Rows.keep q1y.out (Kp.of_below (T := allT) hb) (by decide) (fun _ _ h => h))
  clear q1y
  have q1J := hide (Rows.keep q1z.out (Kp.of_below (T := allT) hb) (by decide) (fun _ _ h => h))
  clear q1z
  have q1K := hide (Rows.keep q1A.out (Kp.of_below (T := allT) hb) (by decide) (fun _ _ h => h.keep (inner_all (Kp.of_below (T := allT) hb) (by decide))))
  clear q1A
  have q1L := hide (Rows.keep q1B.out (Kp.of_below (T := allT) hb) (by decide) (fun _ _ h => h.keep (inner_all (Kp.of_below (T := allT) hb) (by decide))))
  clear q1B
  have q1M := hide (Rows.keep q1C.out (Kp.of_below (T := allT) hb) (by decide) (fun _ _ h => h))
  clear q1C
  obtain ⟨p6, r6, rfl⟩ := rows_form hv
  have HZ : ∀ g, New _ g → Beh (w.heap.size + 1) (.slice p1 S.kinds.length r1) g := fun g (hg : _ ≤ g) => ⟨by have h1 := SZ.out; have h2 := SW.out; have h3 := Nat.le_trans h1 hg; omega, fun h => by have h1 := KB.out g h.symm; have h2 := Nat.le_trans SZ.out hg; omega⟩
  have V6 := hide (Rows.mono hv HZ fun _ _ h => h.mono HZ)
  clear HZ
  have SZ : Hid (w1.heap.size ≤ w16.heap.size) := hide (Nat.le_trans SZ.out hb.size)
  have BW16 := hide (BW15.out.trans (hb.mono BW15.out.size))
  clear hb hv C16 BW15
  obtain ⟨q1N, q1O, q1P, q1Q, q1R, q1S, q1T, q1U, q1V, y17⟩ := row9 q1F.out
  have q1W := hide (q1H.out.keep (Kp.setLoc (T := allT) (i := 6) (v := .slice p6 S.rules.length r6) q1F.out (by decide)))
  clear q1H
  have q1X := hide (Rows.keep q1I.out (Kp.setLoc (T := allT) (i := 6) (v := .slice p6 S.rules.length r6) q1F.out (by decide)) (by decide) (fun _ _ h => h))
  clear q1I
  have q1Y := hide (Rows.keep q1J.out (Kp.setLoc (T := allT) (i := 6) (v := .slice p6 S.rules.length r6) q1F.out (by decide)) (by decide) (fun _ _ h => h))
  clear q1J
  have q1Z := hide (Rows.keep q1K.out (Kp.setLoc (T := allT) (i := 6) (v := .slice p6 S.rules.length r6) q1F.out (by decide)) (by decide) (fun _ _ h => h.keep (inner_all (Kp.setLoc (T := allT) (i := 6) (v := .slice p6 S.rules.length r6) q1F.out (by decide)) (by decide))))
  clear q1K
  have q20 := hide (Rows.keep q1L.out (Kp.setLoc (T := allT) (i := 6) (v := .slice p6 S.rules.length r6) q1F.out (by decide)) (by decide) (fun _ _ h => h.keep (inner_all (Kp.setLoc (T := allT) (i := 6) (v := .slice p6 S.rules.length r6) q1F.out (by decide)) (by decide))))
  clear q1L
  have q21 := hide (Rows.keep q1M.out (Kp.setLoc (T := allT) (i := 6) (v := .slice p6 S.rules.length r6) q1F.out (by decide)) (by decide) (fun _ _ h => h))
  clear q1M
  have q22 := hide (Rows.keep V6.out (Kp.setLoc (T := allT) (i := 6) (v := .slice p6 S.rules.length r6) q1F.out (by decide)) (by decide) (fun _ _ h => h.keep (inner_all (Kp.setLoc (T := allT) (i := 6) (v := .slice p6 S.rules.length r6) q1F.out (by decide)) (by decide))))
  clear V6
  have q23 := hide (loc_set (i := 6) (v := .slice p6 S.rules.length r6) q1F.out)
  have q24 := hide (loc_other (p := ⟨w.heap.size, 6, none⟩) (v := .slice p6 S.rules.length r6) q1G.out q1.out)
  clear q1F q1G
  have BW18 := hide (below_set BW16.out G0.out 6 (.slice p6 S.rules.length r6))
  clear BW16
  have SZ : Hid (w1.heap.size ≤ (((w16).setCell ⟨w.heap.size, 6, none⟩ (.slice p6 S.rules.length r6))).heap.size) := hide (Nat.le_trans SZ.out (by simp))
  have C19 := hide (copy_CopyExcepts _ _ _ q1W.out.excepts hs.excepts)
  go_wp2_with fail
  refine C19.out.mono ?_
  rintro _ w19 ⟨v19, rfl, hv, hb⟩
  clear q1N q1O q1P q1Q q1R q1S q1T q1U q1V y17
  have q25 := hide ((hb.block _ (loc_lt q23.out)).trans q23.out)
  clear q23
  have q26 := hide ((hb.block _ (loc_lt q24.out)).trans q24.out)
  clear q24
  have q27 := hide (q1W.out.keep (Kp.of_below (T := allT) hb))
  clear q1W
  have q28 := hide (Rows.keep q1X.out (Kp.of_below (T := allT) hb) (by decide) (fun _ _ h => h))
  clear q1X
  have q29 := hide (Rows.keep q1Y.out (Kp.of_below (T := allT) hb) (by decide) (fun _ _ h => h))
  clear q1Y
  have q2a := hide (Rows.keep q1Z.out (Kp.of_below (T := allT) hb) (by decide) (fun _ _ h => h.keep (inner_all (Kp.of_below (T := allT) hb) (by decide))))
  clear q1Z
  have q2b := hide (Rows.keep q20.out (Kp.of_below (T := allT) hb) (by decide) (fun _ _ h => h.keep (inner_all (Kp.of_below (T := allT) hb) (by decide))))
  clear q20
  have q2c := hide (Rows.keep q21.out (Kp.of_below (T := allT) hb) (by decide) (fun _ _ h => h))
  clear q21
  have q2d := hide (Rows.keep q22.out (Kp.of_below (T := allT) hb) (by decide) (fun _ _ h => h.keep (inner_all (Kp.of_below (T := allT) hb) (by decide))))
  clear q22
  obtain ⟨p7, r7, rfl⟩ := rows_form hv
  have HZ : ∀ g, New _ g → Beh (w.heap.size + 1) (.slice p1 S.kinds.length r1) g := fun g (hg : _ ≤ g) => ⟨by have h1 := SZ.out; have h2 := SW.out; have h3 := Nat.le_trans h1 hg; omega, fun h => by have h1 := KB.out g h.symm; have h2 := Nat.le_trans SZ.out hg; omega⟩
  have V7 := hide (Rows.mono hv HZ fun _ _ h => h)
  clear HZ
  have SZ : Hid (w1.heap.size ≤ w19.heap.size) := hide (Nat.le_trans SZ.out hb.size)
  have BW19 := hide (BW18.out.trans (hb.mono BW18.out.size))
  clear hb hv C19 BW18
  obtain ⟨q2e, q2f, q2g, q2h, q2i, q2j, q2k, q2l, q2m, y20⟩ := row9 q25.out
  have q2n := hide (q27.out.keep (Kp.setLoc (T := allT) (i := 7) (v := .slice p7 S.excepts.length r7) q25.out (by decide)))
  clear q27
  have q2o := hide (Rows.keep q28.out (Kp.setLoc (T := allT) (i := 7) (v := .slice p7 S.excepts.length r7) q25.out (by decide)) (by decide) (fun _ _ h => h))
  clear q28
  have q2p := hide (Rows.keep q29.out (Kp.setLoc (T := allT) (i := 7) (v := .slice p7 S.excepts.length r7) q25.out (by decide)) (by decide) (fun _ _ h => h))
  clear q29
  have q2q := hide (Rows.keep q2a.out (Kp.setLoc (T := allT) (i := 7) (v := .slice p7 S.excepts.length r7) q25.out (by decide)) (by decide) (fun _ _ h => h.keep (inner_all (Kp.setLoc (T := allT) (i := 7) (v := .slice p7 S.excepts.length r7) q25.out (by decide)) (by decide))))
  clear q2a
  have q2r := hide (Rows.keep q2b.out (Kp.setLoc (T := allT) (i := 7) (v := .slice p7 S.excepts.length r7) q25.out (by decide)) (by decide) (fun _ _ h => h.keep (inner_all (Kp.setLoc (T := allT) (i := 7) (v := .slice p7 S.excepts.length r7) q25.out (by decide)) (by decide))))
  clear q2b
  have q2s := hide (Rows.keep q2c.out (Kp.setLoc (T := allT) (i := 7) (v := .slice p7 S.excepts.length r7) q25.out (by decide)) (by decide) (fun _ _ h => h))
  clear q2c
  have q2t := hide (Rows.keep q2d.out (Kp.setLoc (T := allT) (i := 7) (v := .slice p7 S.excepts.length r7) q25.out (by decide)) (by decide) (fun _ _ h => h.keep (inner_all (Kp.setLoc (T := allT) (i := 7) (v := .slice p7 S.excepts.length r7) q25.out (by decide)) (by decide))))
  clear q2d
  have q2u := hide (Rows.keep V7.out (Kp.setLoc (T := allT) (i := 7) (v := .slice p7 S.excepts.length r7) q25.out (by decide)) (by decide) (fun _ _ h => h))
  clear V7
  have q2v := hide (loc_set (i := 7) (v := .slice p7 S.excepts.length r7) q25.out)
  have q2w := hide (loc_other (p := ⟨w.heap.size, 7, none⟩) (v := .slice p7 S.excepts.length r7) q26.out q1.out)
  clear q25 q26
  have BW21 := hide (below_set BW19.out G0.out 7 (.slice p7 S.excepts.length r7))
  clear BW19
  have SZ : Hid (w1.heap.size ≤ (((w19).setCell ⟨w.heap.size, 7, none⟩ (.slice p7 S.excepts.length r7))).heap.size) := hide (Nat.le_trans SZ.out (by simp))
  have C22 := hide (copy_CopyTotals _ _ _ q2n.out.totals hs.totals hs.totals')
  go_wp2_with fail
  refine C22.out.mono ?_
  rintro _ w22 ⟨v22, rfl, hv, hb⟩
  clear q2e q2f q2g q2h q2i q2j q2k q2l q2m y20
  have q2x := hide ((hb.block _ (loc_lt q2v.out)).trans q2v.out)
  clear q2v
  have q2y := hide ((hb.block _ (loc_lt q2w.out)).trans q2w.out)
  clear q2w
  have q2z := hide (q2n.out.keep (Kp.of_below (T := allT) hb))
  clear q2n
  have q2A := hide (Rows.keep q2o.out (Kp.of_below (T := allT) hb) (by decide) (fun _ _ h => h))
  clear q2o
  have q2B := hide (Rows.keep q2p.out (Kp.of_below (T := allT) hb) (by decide) (fun _ _ h => h))
  clear q2p
  have q2C := hide (Rows.keep q2q.out (Kp.of_below (T := allT) hb) (by decide) (fun _ _ h => h.keep (inner_all (Kp.of_below (T := allT) hb) (by decide))))
  clear q2q
  have q2D := hide (Rows.keep q2r.out (Kp.of_below (T := allT) hb) (by decide) (fun _ _ h => h.keep (inner_all (Kp.of_below (T := allT) hb) (by decide))))
  clear q2r
  have q2E := hide (Rows.keep q2s.out (Kp.of_below (T := allT) hb) (by decide) (fun _ _ h => h))
  clear q2s
  have q2F := hide (Rows.keep q2t.out (Kp.of_below (T := allT) hb) (by decide) (fun _ _ h => h.keep (inner_all (Kp.of_below (T := allT) hb) (by decide))))
  clear q2t
  have q2G := hide (Rows.keep q2u.out (Kp.of_below (T := allT) hb) (by decide) (fun _ _ h => h))
  clear q2u
  obtain ⟨p8, r8, rfl⟩ := rows_form hv
  have HZ : ∀ g, New _ g → Beh (w.heap.size + 1) (.slice p1 S.kinds.length r1) g := fun g (hg : _ ≤ g) => ⟨by have h1 := SZ.out; have h2 := SW.out; have h3 := Nat.le_trans h1 hg; omega, fun h => by have h1 := KB.out g h.symm; have h2 := Nat.le_trans SZ.out hg; omega⟩
  have V8 := hide (Rows.mono hv HZ fun _ _ h => h.mono HZ)
  clear HZ
  have SZ : Hid (w1.heap.size ≤ w22.heap.size) := hide (Nat.le_trans SZ.out hb.size)
  have BW22 := hide (BW21.out.trans (hb.mono BW21.out.size))
  clear hb hv C22 BW21
  obtain ⟨q2H, q2I, q2J, q2K, q2L, q2M, q2N, q2O, q2P, y23⟩ := row9 q2x.out
  obtain ⟨q2Q, q2R, q2S, q2T, q2U, q2V, q2W, q2X, q2Y, y24⟩ := row9 q2y.out
  have x25 := q0.out
  have x26 := q1.out
  have q2Z := hide (q2z.out.keep (Kp.setLoc (T := allT) (i := 8) (v := .slice p8 S.totals.length r8) q2x.out (by decide)))
  clear q2z
  have q30 := hide (Rows.keep q2A.out (Kp.setLoc (T := allT) (i := 8) (v := .slice p8 S.totals.length r8) q2x.out (by decide)) (by decide) (fun _ _ h => h))
  clear q2A
  have q31 := hide (Rows.keep q2B.out (Kp.setLoc (T := allT) (i := 8) (v := .slice p8 S.totals.length r8) q2x.out (by decide)) (by decide) (fun _ _ h => h))
  clear q2B
  have q32 := hide (Rows.keep q2C.out (Kp.setLoc (T := allT) (i := 8) (v := .slice p8 S.totals.length r8) q2x.out (by decide)) (by decide) (fun _ _ h => h.keep (inner_all (Kp.setLoc (T := allT) (i := 8) (v := .slice p8 S.totals.length r8) q2x.out (by decide)) (by decide))))
  clear q2C
  have q33 := hide (Rows.keep q2D.out (Kp.setLoc (T := allT) (i := 8) (v := .slice p8 S.totals.length r8) q2x.out (by decide)) (by decide) (fun _ _ h => h.keep (inner_all (Kp.setLoc (T := allT) (i := 8) (v := .slice p8 S.totals.length r8) q2x.out (by decide)) (by decide))))
  clear q2D
  have q34 := hide (Rows.keep q2E.out (Kp.setLoc (T := allT) (i := 8) (v := .slice p8 S.totals.length r8) q2x.out (by decide)) (by decide) (fun _ _ h => h))
  clear q2E
  have q35 := hide (Rows.keep q2F.out (Kp.setLoc (T := allT) (i := 8) (v := .slice p8 S.totals.length r8) q2x.out (by decide)) (by decide) (fun _ _ h => h.keep (inner_all (Kp.setLoc (T := allT) (i := 8) (v := .slice p8 S.totals.length r8) q2x.out (by decide)) (by decide))))
  clear q2F
  have q36 := hide (Rows.keep q2G.out (Kp.setLoc (T := allT) (i := 8) (v := .slice p8 S.totals.length r8) q2x.out (by decide)) (by decide) (fun _ _ h => h))
  clear q2G
  have q37 := hide (Rows.keep V8.out (Kp.setLoc (T := allT) (i := 8) (v := .slice p8 S.totals.length r8) q2x.out (by decide)) (by decide) (fun _ _ h => h.keep (inner_all (Kp.setLoc (T := allT) (i := 8) (v := .slice p8 S.totals.length r8) q2x.out (by decide)) (by decide))))
  clear V8
  have q38 := hide (loc_set (i := 8) (v := .slice p8 S.totals.length r8) q2x.out)
  have q39 := hide (loc_other (p := ⟨w.heap.size, 8, none⟩) (v := .slice p8 S.totals.length r8) q2y.out q1.out)
  clear q2x q2y
  have BW27 := hide (below_set BW22.out G0.out 8 (.slice p8 S.totals.length r8))
  clear BW22
  have SZ : Hid (w1.heap.size ≤ (((w22).setCell ⟨w.heap.size, 8, none⟩ (.slice p8 S.totals.length r8))).heap.size) := hide (Nat.le_trans SZ.out (by simp))
  have HR := hide (show SRep (w.heap.size + 1) _ ⟨.string ⟨S.title.toArray⟩, .slice p1 S.kinds.length r1, .slice p2 S.members.length r2, .slice p3 S.preds.length r3, .slice p4 S.classes.length r4, .slice p5 S.sources.length r5, .slice p6 S.rules.length r6, .slice p7 S.excepts.length r7, .slice p8 S.totals.length r8⟩ S from ⟨rfl, q30.out, q31.out, q32.out, q33.out, q34.out, q35.out, q36.out, q37.out⟩)
  clear q2Z q30 q31 q32 q33 q34 q35 q36 q37
  go_wp2_with fail
  have hz := (And.intro q2H (And.intro q2I (And.intro q2J (And.intro q2K (And.intro q2L (And.intro q2M (And.intro q2N (And.intro q2O (And.intro q2P (And.intro y23 (And.intro q2Q (And.intro q2R (And.intro q2S (And.intro q2T (And.intro q2U (And.intro q2V (And.intro q2W (And.intro q2X (And.intro q2Y (And.intro y24 (And.intro x25 x26)))))))))))))))))))))
  simp [bodyPost, results, Tryz.results17, go_sem, hz]
  exact ⟨⟨.string ⟨S.title.toArray⟩, .slice p1 S.kinds.length r1, .slice p2 S.members.length r2, .slice p3 S.preds.length r3, .slice p4 S.classes.length r4, .slice p5 S.sources.length r5, .slice p6 S.rules.length r6, .slice p7 S.excepts.length r7, .slice p8 S.totals.length r8⟩, ⟨rfl, rfl, rfl, rfl, rfl, rfl, rfl, rfl, rfl⟩, HR.out.keep (nine_kp fun g (hg : w.heap.size + 1 < g) => by omega), nine_below BW27.out (Nat.le_succ _)⟩
end Go.Proofs.YthnjmfkiohgkkaaGreatDoor.Sy
