/- Copies of lists: the same things in memory of their own. By program (tools/gen5/c18.py). -/
import Derived.Test.YthnjmfkiohgkkaaGreatDoorSameAll
import Derived.Test.YthnjmfkiohgkkaaGreatDoorMem5
namespace Go.Proofs.YthnjmfkiohgkkaaGreatDoor.Sy
open Go.RowKit

/-- The thing has been put behind the list. -/
theorem put_more {α : Type} {Z : Nat → Prop} {e k : Nat} {c : World → α → List Value → Prop} {T : List Nat} {B : Nat} {w w3 w4 : World} {l : List α} {tv : Value} {news : List Value} {a : α} {g cap ty : Nat}
    {xs : List Value} (hw3 : w3 = w.alloc (.cells news.toArray ty))
    (hrow : Row Z e k w tv l.length xs) (hold : ∀ i b, l[i]? = some b → c w b ((xs.drop (i * k)).take k)) (hnew : c w a news) (hn : news.length = k) (hz : ∀ g, w.heap.size ≤ g → Z g)
    (hc : ∀ w w' b ys, Kp T Z w w' → c w b ys → c w' b ys) (heT : e ∉ T) (hzB : ∀ g, Z g → B ≤ g) (hB : B ≤ w.heap.size)
    (hown : w4.ownsRow 0 e k (.slice (some ⟨g, 0, none⟩) (l.length + 1) cap) (l.length + 1) (xs ++ news))
    (hg : (tv.ownBlock = some g ∧ w3.grownBy w4 (some g)) ∨ (g = w.heap.size + 1 ∧ w3.grownBy w4 none)) :
    Rows Z e k c w4 (l ++ [a]) (.slice (some ⟨g, 0, none⟩) (l.length + 1) cap) ∧ Below B w w4 := by
  have hsz : w3.heap.size = w.heap.size + 1 := by rw [hw3]; simp
  have hold3 : ∀ k, k < w.heap.size → w3.heap[k]? = w.heap[k]? := fun k hk => by rw [hw3]; exact Go.heap_alloc_old w _ hk
  have hown' : ∀ g, tv.ownBlock = some g → ∃ cur, w.heap[g]? = some (.cells cur e (0, 0)) := by
    intro g hg
    rcases hrow.1.2 with ⟨h1, _⟩ | ⟨g', cap, cur, h1, _, h3, _⟩
    · rw [h1] at hg; cases hg
    · rw [h1] at hg; cases hg; exact ⟨cur, h3⟩
  have hlt : ∀ g, tv.ownBlock = some g → g < w.heap.size := fun g hg => (hrow.1.lt g hg).2
  obtain ⟨row, hr1, hr2⟩ : ∃ row, (row = none ∨ row = tv.ownBlock) ∧ w3.grownBy w4 row := by
    rcases hg with ⟨h1, h2⟩ | ⟨_, h2⟩
    · exact ⟨some g, .inr h1.symm, h2⟩
    · exact ⟨none, .inl rfl, h2⟩
  have hK : Kp T Z w w4 := by
    have h1 : Kp T Z w w3 := Kp.of_below ⟨by rw [hw3]; rfl, by rw [hw3]; rfl, by rw [hw3]; rfl, by omega, fun k hk => hold3 k hk⟩
    refine h1.trans (Kp.of_grown hr2 (fun g hg => ?_) heT)
    rcases hr1 with rfl | rfl
    · cases hg
    · obtain ⟨cur, hcur⟩ := hown' g hg
      exact ⟨cur, (hold3 g (hlt g hg)).trans hcur⟩
  refine ⟨Rows.snoc ⟨hown, fun g' hg' => ?_⟩ hrow.1.1 hn (fun i b hi => hc _ _ _ _ hK (hold i b hi)) (hc _ _ _ _ hK hnew), ⟨hr2.os.trans (by rw [hw3]; rfl), hr2.tape.trans (by rw [hw3]; rfl), hr2.output.trans (by rw [hw3]; rfl), by have := hr2.size; omega, fun k hk => ?_⟩⟩
  · simp only [Value.ownBlock, Option.some.injEq] at hg'
    subst hg'
    rcases hg with ⟨h1, _⟩ | ⟨h1, _⟩
    · exact hrow.2 _ h1
    · exact hz _ (by omega)
  · exact (hr2.block k (by omega) (by
      rcases hr1 with rfl | rfl
      · simp
      · intro h'
        have := hzB k (hrow.2 k h'.symm)
        omega)).trans (hold3 k (by omega))

theorem take_snoc {α : Type} {l : List α} {k : Nat} {t : α} (h : l[k]? = some t) : l.take k ++ [t] = l.take (k + 1) := by
  obtain ⟨hk, e⟩ := List.getElem?_eq_some_iff.1 h
  rw [List.take_succ_eq_append_getElem hk, e]

set_option maxRecDepth 100000 in
set_option maxHeartbeats 1600000 in
theorem copy_CopyStrings {Z : Nat → Prop} (l : List Bytes) (va : Value) (w : World) (ha : Rows Z 9 1 cS w l va) (hl : l.length ≤ 1000000000) :
    Calls Tryz.prog 37 #[va] w fun e w' => ∃ v, e = .returned v ∧ Rows (New w) 9 1 cS w' l v ∧ Below w.heap.size w w' := by
  obtain ⟨iM, hiM, zM0, zM1, zM2⟩ := info_parts' info_string
  have HA := hide ha
  obtain ⟨aa, ca, rfl⟩ := rows_form ha
  clear ha
  go_enter Tryz.func37, Tryz.ntmps37
  go_wp2_with fail
  go_loopw [3, 4] (fun x z wr => ∃ k : Nat, k ≤ l.length ∧ z = .int .i64 k ∧ Hid (Rows (New w) 9 1 cS wr (l.take k) x) ∧ Hid (Below w.heap.size w wr)) (fun _ z _ => l.length - (intOf z).toNat)
  case atStart => exact ⟨0, by omega, rfl, hide (Rows.nil _ _ _ _ _), hide (Below.refl _ w)⟩
  case round =>
    obtain ⟨k, hk, rfl, HV, HW⟩ := hrel
    by_cases hlt : k < l.length
    · obtain ⟨t, ht⟩ : ∃ t, l[k]? = some t := ⟨l[k], by simp [hlt]⟩
      obtain ⟨ga, xa, ya, e1, _, h1, h2⟩ := (HA.out.keep (T := [9]) (Kp.of_below HW.out) (by decide) (fun _ _ h => h)).at ht
      simp only [Value.slice.injEq] at e1
      obtain ⟨rfl, _, rfl⟩ := e1
      unfold cS at h1
      subst h1
      have a0 : wr.cell? ⟨ga, k, none⟩ = some (.string ⟨t.toArray⟩) := by have := h2 0 _ rfl; simpa using this
      have HS := hide (take_snoc ht)
      obtain ⟨xs, hrow, hold⟩ := HV.out
      have hln : (l.take k).length = k := by simp; omega
      obtain ⟨ta, tc, rfl⟩ := slice_form hrow.1
      rw [hln] at hrow
      have HROW := hide hrow
      have HOLD := hide hold
      have HZ : Hid (∀ g, wr.heap.size ≤ g → New w g) := hide fun g hg => Nat.le_trans HW.out.size hg
      have hsz := HW.out.size
      have HSZ := hide hsz
      clear h2 ht hrow hold HV hsz
      rw [hln]
      go_wp2_with (at_builtin; go_must (refine wpList_append_two _ rfl _ _ 22 rfl 0 9 iM _ 1 16 Tryz.underlying22 hiM zM0 zM1 zM2 rfl (by decide) _ _ _ rfl (HROW.out.1.alloc _) ⟨wr.heap.size, 0, none⟩ 1 [.string ⟨t.toArray⟩] rfl rfl (news_at rfl) (by simp [Value.oneCell']) (by unfold maxLen; omega) (by omega) (Nat.zero_le _) ?_))
      intro g cap w4 hown hg
      obtain ⟨p1, p2⟩ := put_more (T := []) (B := w.heap.size) (a := t) rfl (by rw [hln]; exact HROW.out) HOLD.out rfl rfl HZ.out (fun _ _ _ _ _ h => h) (by decide) (fun g hg => hg) HSZ.out (by rw [hln]; exact hown) hg
      rw [HS.out, hln] at p1
      have P1 := hide p1
      have P2 := hide (HW.out.trans p2)
      clear p1 p2 hown hg HROW HOLD HW HZ HSZ
      go_wp2_with fail
      go_roundw
      case rel => exact ⟨k + 1, by omega, by go_num, P1, P2⟩
      case measure => simp [intOf]; omega
    · have ek : k = l.length := by omega
      subst ek
      rw [List.take_length] at HV
      go_wp2_with fail
      go_ret
      exact ⟨_, rfl, HV.out, HW.out⟩

set_option maxRecDepth 100000 in
set_option maxHeartbeats 1600000 in
theorem copy_CopyMoney {Z : Nat → Prop} (l : List Int) (va : Value) (w : World) (ha : Rows Z 93 1 cI w l va) (hl : l.length ≤ 1000000000) :
    Calls Tryz.prog 107 #[va] w fun e w' => ∃ v, e = .returned v ∧ Rows (New w) 93 1 cI w' l v ∧ Below w.heap.size w w' := by
  obtain ⟨iM, hiM, zM0, zM1, zM2⟩ := info_parts' info_money
  have HA := hide ha
  obtain ⟨aa, ca, rfl⟩ := rows_form ha
  clear ha
  go_enter Tryz.func107, Tryz.ntmps107
  go_wp2_with fail
  go_loopw [3, 4] (fun x z wr => ∃ k : Nat, k ≤ l.length ∧ z = .int .i64 k ∧ Hid (Rows (New w) 93 1 cI wr (l.take k) x) ∧ Hid (Below w.heap.size w wr)) (fun _ z _ => l.length - (intOf z).toNat)
  case atStart => exact ⟨0, by omega, rfl, hide (Rows.nil _ _ _ _ _), hide (Below.refl _ w)⟩
  case round =>
    obtain ⟨k, hk, rfl, HV, HW⟩ := hrel
    by_cases hlt : k < l.length
    · obtain ⟨t, ht⟩ : ∃ t, l[k]? = some t := ⟨l[k], by simp [hlt]⟩
      obtain ⟨ga, xa, ya, e1, _, h1, h2⟩ := (HA.out.keep (T := [93]) (Kp.of_below HW.out) (by decide) (fun _ _ h => h)).at ht
      simp only [Value.slice.injEq] at e1
      obtain ⟨rfl, _, rfl⟩ := e1
      unfold cI at h1
      subst h1
      have a0 : wr.cell? ⟨ga, k, none⟩ = some (.int .i64 t) := by have := h2 0 _ rfl; simpa using this
      have HS := hide (take_snoc ht)
      obtain ⟨xs, hrow, hold⟩ := HV.out
      have hln : (l.take k).length = k := by simp; omega
      obtain ⟨ta, tc, rfl⟩ := slice_form hrow.1
      rw [hln] at hrow
      have HROW := hide hrow
      have HOLD := hide hold
      have HZ : Hid (∀ g, wr.heap.size ≤ g → New w g) := hide fun g hg => Nat.le_trans HW.out.size hg
      have hsz := HW.out.size
      have HSZ := hide hsz
      clear h2 ht hrow hold HV hsz
      rw [hln]
      go_wp2_with (at_builtin; go_must (refine wpList_append_two _ rfl _ _ 90 rfl 0 93 iM _ 1 8 Tryz.underlying90 hiM zM0 zM1 zM2 rfl (by decide) _ _ _ rfl (HROW.out.1.alloc _) ⟨wr.heap.size, 0, none⟩ 1 [.int .i64 t] rfl rfl (news_at rfl) (by simp [Value.oneCell']) (by unfold maxLen; omega) (by omega) (Nat.zero_le _) ?_))
      intro g cap w4 hown hg
      obtain ⟨p1, p2⟩ := put_more (T := []) (B := w.heap.size) (a := t) rfl (by rw [hln]; exact HROW.out) HOLD.out rfl rfl HZ.out (fun _ _ _ _ _ h => h) (by decide) (fun g hg => hg) HSZ.out (by rw [hln]; exact hown) hg
      rw [HS.out, hln] at p1
      have P1 := hide p1
      have P2 := hide (HW.out.trans p2)
      clear p1 p2 hown hg HROW HOLD HW HZ HSZ
      go_wp2_with fail
      go_roundw
      case rel => exact ⟨k + 1, by omega, by go_num, P1, P2⟩
      case measure => simp [intOf]; omega
    · have ek : k = l.length := by omega
      subst ek
      rw [List.take_length] at HV
      go_wp2_with fail
      go_ret
      exact ⟨_, rfl, HV.out, HW.out⟩

set_option maxRecDepth 100000 in
set_option maxHeartbeats 1600000 in
theorem copy_CopyMembers {Z : Nat → Prop} (l : List (Bytes × Bytes)) (va : Value) (w : World) (ha : Rows Z 78 2 cM w l va) (hl : l.length ≤ 1000000000) :
    Calls Tryz.prog 38 #[va] w fun e w' => ∃ v, e = .returned v ∧ Rows (New w) 78 2 cM w' l v ∧ Below w.heap.size w w' := by
  obtain ⟨iM, hiM, zM0, zM1, zM2⟩ := info_parts' info_member
  have HA := hide ha
  obtain ⟨aa, ca, rfl⟩ := rows_form ha
  clear ha
  go_enter Tryz.func38, Tryz.ntmps38
  go_wp2_with fail
  go_loopw [3, 4] (fun x z wr => ∃ k : Nat, k ≤ l.length ∧ z = .int .i64 k ∧ Hid (Rows (New w) 78 2 cM wr (l.take k) x) ∧ Hid (Below w.heap.size w wr)) (fun _ z _ => l.length - (intOf z).toNat)
  case atStart => exact ⟨0, by omega, rfl, hide (Rows.nil _ _ _ _ _), hide (Below.refl _ w)⟩
  case round =>
    obtain ⟨k, hk, rfl, HV, HW⟩ := hrel
    by_cases hlt : k < l.length
    · obtain ⟨t, ht⟩ : ∃ t, l[k]? = some t := ⟨l[k], by simp [hlt]⟩
      obtain ⟨ga, xa, ya, e1, _, h1, h2⟩ := (HA.out.keep (T := [78]) (Kp.of_below HW.out) (by decide) (fun _ _ h => h)).at ht
      simp only [Value.slice.injEq] at e1
      obtain ⟨rfl, _, rfl⟩ := e1
      unfold cM at h1
      subst h1
      have a0 : wr.cell? ⟨ga, k * 2, none⟩ = some (.string ⟨t.1.toArray⟩) := by have := h2 0 _ rfl; simpa using this
      have a1 : wr.cell? ⟨ga, k * 2 + 1, none⟩ = some (.string ⟨t.2.toArray⟩) := by have := h2 1 _ rfl; simpa using this
      have HS := hide (take_snoc ht)
      obtain ⟨xs, hrow, hold⟩ := HV.out
      have hln : (l.take k).length = k := by simp; omega
      obtain ⟨ta, tc, rfl⟩ := slice_form hrow.1
      rw [hln] at hrow
      have HROW := hide hrow
      have HOLD := hide hold
      have HZ : Hid (∀ g, wr.heap.size ≤ g → New w g) := hide fun g hg => Nat.le_trans HW.out.size hg
      have hsz := HW.out.size
      have HSZ := hide hsz
      clear h2 ht hrow hold HV hsz
      rw [hln]
      go_wp2_with (at_builtin; go_must (refine wpList_append_two _ rfl _ _ 23 rfl 0 78 iM _ 2 32 Tryz.underlying23 hiM zM0 zM1 zM2 rfl (by decide) _ _ _ rfl (HROW.out.1.alloc _) ⟨wr.heap.size, 0, none⟩ 1 [.string ⟨t.1.toArray⟩, .string ⟨t.2.toArray⟩] rfl rfl (news_at rfl) (by simp [Value.oneCell']) (by unfold maxLen; omega) (by omega) (Nat.zero_le _) ?_))
      intro g cap w4 hown hg
      obtain ⟨p1, p2⟩ := put_more (T := []) (B := w.heap.size) (a := t) rfl (by rw [hln]; exact HROW.out) HOLD.out rfl rfl HZ.out (fun _ _ _ _ _ h => h) (by decide) (fun g hg => hg) HSZ.out (by rw [hln]; exact hown) hg
      rw [HS.out, hln] at p1
      have P1 := hide p1
      have P2 := hide (HW.out.trans p2)
      clear p1 p2 hown hg HROW HOLD HW HZ HSZ
      go_wp2_with fail
      go_roundw
      case rel => exact ⟨k + 1, by omega, by go_num, P1, P2⟩
      case measure => simp [intOf]; omega
    · have ek : k = l.length := by omega
      subst ek
      rw [List.take_length] at HV
      go_wp2_with fail
      go_ret
      exact ⟨_, rfl, HV.out, HW.out⟩

set_option maxRecDepth 100000 in
set_option maxHeartbeats 1600000 in
theorem copy_CopySources {Z : Nat → Prop} (l : List (Bytes × Int)) (va : Value) (w : World) (ha : Rows Z 126 2 cSrc w l va) (hl : l.length ≤ 1000000000) :
    Calls Tryz.prog 41 #[va] w fun e w' => ∃ v, e = .returned v ∧ Rows (New w) 126 2 cSrc w' l v ∧ Below w.heap.size w w' := by
  obtain ⟨iM, hiM, zM0, zM1, zM2⟩ := info_parts' info_source
  have HA := hide ha
  obtain ⟨aa, ca, rfl⟩ := rows_form ha
  clear ha
  go_enter Tryz.func41, Tryz.ntmps41
  go_wp2_with fail
  go_loopw [3, 4] (fun x z wr => ∃ k : Nat, k ≤ l.length ∧ z = .int .i64 k ∧ Hid (Rows (New w) 126 2 cSrc wr (l.take k) x) ∧ Hid (Below w.heap.size w wr)) (fun _ z _ => l.length - (intOf z).toNat)
  case atStart => exact ⟨0, by omega, rfl, hide (Rows.nil _ _ _ _ _), hide (Below.refl _ w)⟩
  case round =>
    obtain ⟨k, hk, rfl, HV, HW⟩ := hrel
    by_cases hlt : k < l.length
    · obtain ⟨t, ht⟩ : ∃ t, l[k]? = some t := ⟨l[k], by simp [hlt]⟩
      obtain ⟨ga, xa, ya, e1, _, h1, h2⟩ := (HA.out.keep (T := [126]) (Kp.of_below HW.out) (by decide) (fun _ _ h => h)).at ht
      simp only [Value.slice.injEq] at e1
      obtain ⟨rfl, _, rfl⟩ := e1
      unfold cSrc at h1
      subst h1
      have a0 : wr.cell? ⟨ga, k * 2, none⟩ = some (.string ⟨t.1.toArray⟩) := by have := h2 0 _ rfl; simpa using this
      have a1 : wr.cell? ⟨ga, k * 2 + 1, none⟩ = some (.int .i64 t.2) := by have := h2 1 _ rfl; simpa using this
      have HS := hide (take_snoc ht)
      obtain ⟨xs, hrow, hold⟩ := HV.out
      have hln : (l.take k).length = k := by simp; omega
      obtain ⟨ta, tc, rfl⟩ := slice_form hrow.1
      rw [hln] at hrow
      have HROW := hide hrow
      have HOLD := hide hold
      have HZ : Hid (∀ g, wr.heap.size ≤ g → New w g) := hide fun g hg => Nat.le_trans HW.out.size hg
      have hsz := HW.out.size
      have HSZ := hide hsz
      clear h2 ht hrow hold HV hsz
      rw [hln]
      go_wp2_with (at_builtin; go_must (refine wpList_append_two _ rfl _ _ 26 rfl 0 126 iM _ 2 24 Tryz.underlying26 hiM zM0 zM1 zM2 rfl (by decide) _ _ _ rfl (HROW.out.1.alloc _) ⟨wr.heap.size, 0, none⟩ 1 [.string ⟨t.1.toArray⟩, .int .i64 t.2] rfl rfl (news_at rfl) (by simp [Value.oneCell']) (by unfold maxLen; omega) (by omega) (Nat.zero_le _) ?_))
      intro g cap w4 hown hg
      obtain ⟨p1, p2⟩ := put_more (T := []) (B := w.heap.size) (a := t) rfl (by rw [hln]; exact HROW.out) HOLD.out rfl rfl HZ.out (fun _ _ _ _ _ h => h) (by decide) (fun g hg => hg) HSZ.out (by rw [hln]; exact hown) hg
      rw [HS.out, hln] at p1
      have P1 := hide p1
      have P2 := hide (HW.out.trans p2)
      clear p1 p2 hown hg HROW HOLD HW HZ HSZ
      go_wp2_with fail
      go_roundw
      case rel => exact ⟨k + 1, by omega, by go_num, P1, P2⟩
      case measure => simp [intOf]; omega
    · have ek : k = l.length := by omega
      subst ek
      rw [List.take_length] at HV
      go_wp2_with fail
      go_ret
      exact ⟨_, rfl, HV.out, HW.out⟩

set_option maxRecDepth 100000 in
set_option maxHeartbeats 1600000 in
theorem copy_CopyExcepts {Z : Nat → Prop} (l : List (Bytes × Bytes)) (va : Value) (w : World) (ha : Rows Z 128 2 cM w l va) (hl : l.length ≤ 1000000000) :
    Calls Tryz.prog 43 #[va] w fun e w' => ∃ v, e = .returned v ∧ Rows (New w) 128 2 cM w' l v ∧ Below w.heap.size w w' := by
  obtain ⟨iM, hiM, zM0, zM1, zM2⟩ := info_parts' info_except
  have HA := hide ha
  obtain ⟨aa, ca, rfl⟩ := rows_form ha
  clear ha
  go_enter Tryz.func43, Tryz.ntmps43
  go_wp2_with fail
  go_loopw [3, 4] (fun x z wr => ∃ k : Nat, k ≤ l.length ∧ z = .int .i64 k ∧ Hid (Rows (New w) 128 2 cM wr (l.take k) x) ∧ Hid (Below w.heap.size w wr)) (fun _ z _ => l.length - (intOf z).toNat)
  case atStart => exact ⟨0, by omega, rfl, hide (Rows.nil _ _ _ _ _), hide (Below.refl _ w)⟩
  case round =>
    obtain ⟨k, hk, rfl, HV, HW⟩ := hrel
    by_cases hlt : k < l.length
    · obtain ⟨t, ht⟩ : ∃ t, l[k]? = some t := ⟨l[k], by simp [hlt]⟩
      obtain ⟨ga, xa, ya, e1, _, h1, h2⟩ := (HA.out.keep (T := [128]) (Kp.of_below HW.out) (by decide) (fun _ _ h => h)).at ht
      simp only [Value.slice.injEq] at e1
      obtain ⟨rfl, _, rfl⟩ := e1
      unfold cM at h1
      subst h1
      have a0 : wr.cell? ⟨ga, k * 2, none⟩ = some (.string ⟨t.1.toArray⟩) := by have := h2 0 _ rfl; simpa using this
      have a1 : wr.cell? ⟨ga, k * 2 + 1, none⟩ = some (.string ⟨t.2.toArray⟩) := by have := h2 1 _ rfl; simpa using this
      have HS := hide (take_snoc ht)
      obtain ⟨xs, hrow, hold⟩ := HV.out
      have hln : (l.take k).length = k := by simp; omega
      obtain ⟨ta, tc, rfl⟩ := slice_form hrow.1
      rw [hln] at hrow
      have HROW := hide hrow
      have HOLD := hide hold
      have HZ : Hid (∀ g, wr.heap.size ≤ g → New w g) := hide fun g hg => Nat.le_trans HW.out.size hg
      have hsz := HW.out.size
      have HSZ := hide hsz
      clear h2 ht hrow hold HV hsz
      rw [hln]
      go_wp2_with (at_builtin; go_must (refine wpList_append_two _ rfl _ _ 28 rfl 0 128 iM _ 2 32 Tryz.underlying28 hiM zM0 zM1 zM2 rfl (by decide) _ _ _ rfl (HROW.out.1.alloc _) ⟨wr.heap.size, 0, none⟩ 1 [.string ⟨t.1.toArray⟩, .string ⟨t.2.toArray⟩] rfl rfl (news_at rfl) (by simp [Value.oneCell']) (by unfold maxLen; omega) (by omega) (Nat.zero_le _) ?_))
      intro g cap w4 hown hg
      obtain ⟨p1, p2⟩ := put_more (T := []) (B := w.heap.size) (a := t) rfl (by rw [hln]; exact HROW.out) HOLD.out rfl rfl HZ.out (fun _ _ _ _ _ h => h) (by decide) (fun g hg => hg) HSZ.out (by rw [hln]; exact hown) hg
      rw [HS.out, hln] at p1
      have P1 := hide p1
      have P2 := hide (HW.out.trans p2)
      clear p1 p2 hown hg HROW HOLD HW HZ HSZ
      go_wp2_with fail
      go_roundw
      case rel => exact ⟨k + 1, by omega, by go_num, P1, P2⟩
      case measure => simp [intOf]; omega
    · have ek : k = l.length := by omega
      subst ek
      rw [List.take_length] at HV
      go_wp2_with fail
      go_ret
      exact ⟨_, rfl, HV.out, HW.out⟩

end Go.Proofs.YthnjmfkiohgkkaaGreatDoor.Sy
