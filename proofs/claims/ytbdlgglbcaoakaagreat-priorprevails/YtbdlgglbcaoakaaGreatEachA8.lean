/- The items of each list. -/
import Derived.Test.YtbdlgglbcaoakaaGreatRule8
namespace Go.Proofs.YtbdlgglbcaoakaaGreat
open Go.RowKit Go.Shelf Go.Maps Go.WideMaps
section
variable {R : Nat} {S : StatM} {st : St9} {mp : Mp8} {it : Nat} {seen : List Bytes} {w w' : World}
theorem Ee.bad {seen' : List Bytes} {l : List (Er Unit)} {n : Nat} {c : Int} {x : Er Unit} (hf : Fr (Zi R mp) w w') (ha : AllOk (l.take n)) (hx : l[n]? = some x) (hc : x = .error c) : Ee R S st mp it seen' w l (.panicked [fl c ((it + n : Nat) : Int)]) w' := ⟨hf, .inr ⟨n, c, ⟨ha, hx.trans (by rw [hc])⟩, rfl⟩⟩
theorem Ee.ok {seen' : List Bytes} {l : List (Er Unit)} {n : Nat} (hf : Fr (Zi R mp) w w') (hn : l.length ≤ n) (hn2 : n ≤ l.length) (ha : AllOk (l.take n)) (hr : Res R S st mp (it + n) seen' w') : Ee R S st mp it seen' w l (.returned (.tuple #[])) w' := by
  have e : n = l.length := by omega
  subst e
  rw [List.take_length] at ha
  exact ⟨hf, .inl ⟨rfl, ha, hr⟩⟩
theorem zi_low (h : Res R S st mp it seen w) : ∀ g, g < R → ¬ Zi R mp g := by
  intro g hg hz
  have := h.ne.2.2.2.2.2.2.2
  rcases hz with a | a <;> omega
theorem zi_keep (h : Res R S st mp it seen w) (hf : Fr (Zi R mp) w w') : ∀ g, g < R → w'.heap[g]? = w.heap[g]? := fun g hg => hf.block g (by have := loc_lt h.box; omega) (zi_low h g hg)
set_option maxRecDepth 100000 in
set_option maxHeartbeats 12800000 in
theorem eachK_any (h : Res R S st mp it seen w) {a : Option Addr} {c : Nat} (hl : RR R 1 cS w S.kinds (.slice a S.kinds.length c)) (hit : it ≤ 4096) (hn : S.kinds.length ≤ 512) :
    Calls Tryz.prog 61 #[ptr R, .slice a S.kinds.length c, .func (.func 62) #[ptr R] #[]] w fun e w' => Ee R S st mp it seen w (S.kinds.mapIdx (kindM S.kinds)) e w' := by
  have H := hide h
  have HL := hide hl
  clear h hl
  go_enter Tryz.func61, Tryz.ntmps61
  go_wp2_with fail
  go_loopw [10] (fun x wr => ∃ i : Nat, i ≤ S.kinds.length ∧ x = .int .i64 i ∧ Hid (Res R S st mp (it + i) seen wr) ∧ Hid (Fr (Zi R mp) w wr) ∧ Hid (AllOk ((S.kinds.mapIdx (kindM S.kinds)).take i))) (fun x _ => S.kinds.length - (intOf x).toNat)
  case atStart => exact ⟨0, by omega, rfl, H, hide (.refl _ _), hide (by rw [List.take_zero]; exact AllOk.nil)⟩
  case round =>
    obtain ⟨i, hi, rfl, HR, HF, HA⟩ := hrel
    by_cases hlt : i < S.kinds.length
    · obtain ⟨x, hx⟩ : ∃ x, S.kinds[i]? = some x := ⟨S.kinds[i], List.getElem?_eq_getElem hlt⟩
      have HI : Hid ((S.kinds.mapIdx (kindM S.kinds))[i]? = some ((kindM S.kinds) i x)) := by rw [List.getElem?_mapIdx, hx]; rfl
      have hl2 := RR.keep HL.out (zi_keep H.out HF.out) (fun _ _ h => h)
      obtain ⟨gg, oo, hga, hg, e0, hs⟩ := at_S hl2 hx
      cases hga
      have HRB := HR
      have HFB := HF
      have CK := hide (kind_any HRB.out i x hs)
      unfold str at *
      clear hx hl2 
      go_wp2_with fail
      refine CK.out.mono ?_
      intro e w2 hE
      rcases hE.no with ⟨c1, h3, rfl, hf⟩ | ⟨_, v, h3, rfl, hrv, hf⟩
      · exact ⟨rfl, Ee.bad (HFB.out.trans (.of_below hf)) HA.out HI.out h3⟩
      have HA2 := hide (AllOk.snoc HA.out HI.out h3)
      have hR2 := HRB.out.below hf
      have HR2 := hide hR2.count
      have HF2 := hide ((HFB.out.trans (.of_below hf)).trans (.setCell ⟨R, 9, none⟩ (.int .i64 ((it + i + 1 : Nat) : Int)) (.inl rfl)))
      have r9 := hR2.c9
      have rz := hR2.frz 9
      have hcast : (((it + i : Nat) : Int) + 1) = ((it + i + 1 : Nat) : Int) := by omega
      clear hE h3 hf CK hR2 HR HF HA HI HRB HFB
      go_wp2_with fail
      go_roundw
      case rel => exact ⟨i + 1, by omega, by go_num, HR2, HF2, HA2⟩
      case measure => simp [intOf]; omega
    · go_wp2_with fail
      go_end0
      exact Ee.ok (n := i) HF.out (by rw [List.length_mapIdx]; omega) (by rw [List.length_mapIdx]; omega) HA.out HR.out
set_option maxRecDepth 100000 in
set_option maxHeartbeats 12800000 in
theorem eachM_any (h : Res R S st mp it seen w) {a : Option Addr} {c : Nat} (hl : RR R 2 cM w S.members (.slice a S.members.length c)) (hit : it ≤ 4096) (hn : S.members.length ≤ 512) :
    Calls Tryz.prog 63 #[ptr R, .slice a S.members.length c, .func (.func 64) #[ptr R] #[]] w fun e w' => Ee R S st mp it seen w (S.members.mapIdx (memberM S.ctx)) e w' := by
  have H := hide h
  have HL := hide hl
  clear h hl
  go_enter Tryz.func63, Tryz.ntmps63
  go_wp2_with fail
  go_loopw [10] (fun x wr => ∃ i : Nat, i ≤ S.members.length ∧ x = .int .i64 i ∧ Hid (Res R S st mp (it + i) seen wr) ∧ Hid (Fr (Zi R mp) w wr) ∧ Hid (AllOk ((S.members.mapIdx (memberM S.ctx)).take i))) (fun x _ => S.members.length - (intOf x).toNat)
  case atStart => exact ⟨0, by omega, rfl, H, hide (.refl _ _), hide (by rw [List.take_zero]; exact AllOk.nil)⟩
  case round =>
    obtain ⟨i, hi, rfl, HR, HF, HA⟩ := hrel
    by_cases hlt : i < S.members.length
    · obtain ⟨x, hx⟩ : ∃ x, S.members[i]? = some x := ⟨S.members[i], List.getElem?_eq_getElem hlt⟩
      have HI : Hid ((S.members.mapIdx (memberM S.ctx))[i]? = some ((memberM S.ctx) i x)) := by rw [List.getElem?_mapIdx, hx]; rfl
      have hl2 := RR.keep HL.out (zi_keep H.out HF.out) (fun _ _ h => h)
      obtain ⟨gg, oo, hga, hg, e0, e1, hs, hs2⟩ := at_M hl2 hx
      cases hga
      have hB : Below wr.heap.size wr (wr.alloc (.cells #[str x.1, str x.2] 92)) := (Below.refl _ _).alloc (Nat.le_refl _) _
      have HRB := hide (HR.out.below hB)
      have HFB := hide (HF.out.trans (.of_below hB))
      have hBl : ∀ g, g < R → (wr.alloc (.cells #[str x.1, str x.2] 92)).heap[g]? = wr.heap[g]? := fun g hg => hB.block g (by have := loc_lt HR.out.box; omega)
      have CK := hide (member_any HRB.out i x hs hs2)
      unfold str at *
      clear hx hl2 hB hBl
      go_wp2_with fail
      refine CK.out.mono ?_
      intro e w2 hE
      rcases hE.no with ⟨c1, h3, rfl, hf⟩ | ⟨_, v, h3, rfl, hrv, hf⟩
      · exact ⟨rfl, Ee.bad (HFB.out.trans (.of_below hf)) HA.out HI.out h3⟩
      have HA2 := hide (AllOk.snoc HA.out HI.out h3)
      have hR2 := HRB.out.below hf
      have HR2 := hide hR2.count
      have HF2 := hide ((HFB.out.trans (.of_below hf)).trans (.setCell ⟨R, 9, none⟩ (.int .i64 ((it + i + 1 : Nat) : Int)) (.inl rfl)))
      have r9 := hR2.c9
      have rz := hR2.frz 9
      have hcast : (((it + i : Nat) : Int) + 1) = ((it + i + 1 : Nat) : Int) := by omega
      clear hE h3 hf CK hR2 HR HF HA HI HRB HFB
      go_wp2_with fail
      go_roundw
      case rel => exact ⟨i + 1, by omega, by go_num, HR2, HF2, HA2⟩
      case measure => simp [intOf]; omega
    · go_wp2_with fail
      go_end0
      exact Ee.ok (n := i) HF.out (by rw [List.length_mapIdx]; omega) (by rw [List.length_mapIdx]; omega) HA.out HR.out
set_option maxRecDepth 100000 in
set_option maxHeartbeats 12800000 in
theorem eachP_any (h : Res R S st mp it seen w) {a : Option Addr} {c : Nat} (hl : RR R 4 (cPred R) w S.preds (.slice a S.preds.length c)) (hit : it ≤ 4096) (hn : S.preds.length ≤ 512) :
    Calls Tryz.prog 65 #[ptr R, .slice a S.preds.length c, .func (.func 66) #[ptr R] #[]] w fun e w' => Ee R S st mp it seen w (S.preds.mapIdx (predM S.ctx)) e w' := by
  have H := hide h
  have HL := hide hl
  clear h hl
  go_enter Tryz.func65, Tryz.ntmps65
  go_wp2_with fail
  go_loopw [10] (fun x wr => ∃ i : Nat, i ≤ S.preds.length ∧ x = .int .i64 i ∧ Hid (Res R S st mp (it + i) seen wr) ∧ Hid (Fr (Zi R mp) w wr) ∧ Hid (AllOk ((S.preds.mapIdx (predM S.ctx)).take i))) (fun x _ => S.preds.length - (intOf x).toNat)
  case atStart => exact ⟨0, by omega, rfl, H, hide (.refl _ _), hide (by rw [List.take_zero]; exact AllOk.nil)⟩
  case round =>
    obtain ⟨i, hi, rfl, HR, HF, HA⟩ := hrel
    by_cases hlt : i < S.preds.length
    · obtain ⟨x, hx⟩ : ∃ x, S.preds[i]? = some x := ⟨S.preds[i], List.getElem?_eq_getElem hlt⟩
      have HI : Hid ((S.preds.mapIdx (predM S.ctx))[i]? = some ((predM S.ctx) i x)) := by rw [List.getElem?_mapIdx, hx]; rfl
      have hl2 := RR.keep HL.out (zi_keep H.out HF.out) (fun _ _ h => h.keep (zi_keep H.out HF.out))
      obtain ⟨gg, oo, ka, kc, va, vc, hga, hg, e0, e1, e2, e3, hs, hks, hvs⟩ := at_P hl2 hx
      cases hga
      have hB : Below wr.heap.size wr (wr.alloc (.cells (predV x ka kc va vc) 119)) := (Below.refl _ _).alloc (Nat.le_refl _) _
      have HRB := hide (HR.out.below hB)
      have HFB := hide (HF.out.trans (.of_below hB))
      have hBl : ∀ g, g < R → (wr.alloc (.cells (predV x ka kc va vc) 119)).heap[g]? = wr.heap[g]? := fun g hg => hB.block g (by have := loc_lt HR.out.box; omega)
      have CK := hide (pred_any HRB.out i x hs (Strs.keep hBl hks) (RR.keep hvs hBl (fun _ _ h => h)))
      unfold predV str at *
      clear hx hl2 hks hvs hB hBl
      go_wp2_with fail
      refine CK.out.mono ?_
      intro e w2 hE
      rcases hE.no with ⟨c1, h3, rfl, hf⟩ | ⟨_, v, h3, rfl, hrv, hf⟩
      · exact ⟨rfl, Ee.bad (HFB.out.trans (.of_below hf)) HA.out HI.out h3⟩
      have HA2 := hide (AllOk.snoc HA.out HI.out h3)
      have hR2 := HRB.out.below hf
      have HR2 := hide hR2.count
      have HF2 := hide ((HFB.out.trans (.of_below hf)).trans (.setCell ⟨R, 9, none⟩ (.int .i64 ((it + i + 1 : Nat) : Int)) (.inl rfl)))
      have r9 := hR2.c9
      have rz := hR2.frz 9
      have hcast : (((it + i : Nat) : Int) + 1) = ((it + i + 1 : Nat) : Int) := by omega
      clear hE h3 hf CK hR2 HR HF HA HI HRB HFB
      go_wp2_with fail
      go_roundw
      case rel => exact ⟨i + 1, by omega, by go_num, HR2, HF2, HA2⟩
      case measure => simp [intOf]; omega
    · go_wp2_with fail
      go_end0
      exact Ee.ok (n := i) HF.out (by rw [List.length_mapIdx]; omega) (by rw [List.length_mapIdx]; omega) HA.out HR.out
set_option maxRecDepth 100000 in
set_option maxHeartbeats 12800000 in
theorem eachS_any (h : Res R S st mp it seen w) {a : Option Addr} {c : Nat} (hl : RR R 2 cSrc w S.sources (.slice a S.sources.length c)) (hit : it ≤ 4096) (hn : S.sources.length ≤ 512) :
    Calls Tryz.prog 69 #[ptr R, .slice a S.sources.length c, .func (.func 70) #[ptr R] #[]] w fun e w' => Ee R S st mp it seen w (S.sources.mapIdx (sourceM S.srcs)) e w' := by
  have H := hide h
  have HL := hide hl
  clear h hl
  go_enter Tryz.func69, Tryz.ntmps69
  go_wp2_with fail
  go_loopw [10] (fun x wr => ∃ i : Nat, i ≤ S.sources.length ∧ x = .int .i64 i ∧ Hid (Res R S st mp (it + i) seen wr) ∧ Hid (Fr (Zi R mp) w wr) ∧ Hid (AllOk ((S.sources.mapIdx (sourceM S.srcs)).take i))) (fun x _ => S.sources.length - (intOf x).toNat)
  case atStart => exact ⟨0, by omega, rfl, H, hide (.refl _ _), hide (by rw [List.take_zero]; exact AllOk.nil)⟩
  case round =>
    obtain ⟨i, hi, rfl, HR, HF, HA⟩ := hrel
    by_cases hlt : i < S.sources.length
    · obtain ⟨x, hx⟩ : ∃ x, S.sources[i]? = some x := ⟨S.sources[i], List.getElem?_eq_getElem hlt⟩
      have HI : Hid ((S.sources.mapIdx (sourceM S.srcs))[i]? = some ((sourceM S.srcs) i x)) := by rw [List.getElem?_mapIdx, hx]; rfl
      have hl2 := RR.keep HL.out (zi_keep H.out HF.out) (fun _ _ h => h)
      obtain ⟨gg, oo, hga, hg, e0, e1, hs⟩ := at_Src hl2 hx
      cases hga
      have hB : Below wr.heap.size wr (wr.alloc (.cells #[str x.1, .int .i64 x.2] 73)) := (Below.refl _ _).alloc (Nat.le_refl _) _
      have HRB := hide (HR.out.below hB)
      have HFB := hide (HF.out.trans (.of_below hB))
      have hBl : ∀ g, g < R → (wr.alloc (.cells #[str x.1, .int .i64 x.2] 73)).heap[g]? = wr.heap[g]? := fun g hg => hB.block g (by have := loc_lt HR.out.box; omega)
      have CK := hide (source_any HRB.out i x hs)
      unfold str at *
      clear hx hl2 hB hBl
      go_wp2_with fail
      refine CK.out.mono ?_
      intro e w2 hE
      rcases hE.no with ⟨c1, h3, rfl, hf⟩ | ⟨_, v, h3, rfl, hrv, hf⟩
      · exact ⟨rfl, Ee.bad (HFB.out.trans (.of_below hf)) HA.out HI.out h3⟩
      have HA2 := hide (AllOk.snoc HA.out HI.out h3)
      have hR2 := HRB.out.below hf
      have HR2 := hide hR2.count
      have HF2 := hide ((HFB.out.trans (.of_below hf)).trans (.setCell ⟨R, 9, none⟩ (.int .i64 ((it + i + 1 : Nat) : Int)) (.inl rfl)))
      have r9 := hR2.c9
      have rz := hR2.frz 9
      have hcast : (((it + i : Nat) : Int) + 1) = ((it + i + 1 : Nat) : Int) := by omega
      clear hE h3 hf CK hR2 HR HF HA HI HRB HFB
      go_wp2_with fail
      go_roundw
      case rel => exact ⟨i + 1, by omega, by go_num, HR2, HF2, HA2⟩
      case measure => simp [intOf]; omega
    · go_wp2_with fail
      go_end0
      exact Ee.ok (n := i) HF.out (by rw [List.length_mapIdx]; omega) (by rw [List.length_mapIdx]; omega) HA.out HR.out
set_option maxRecDepth 100000 in
set_option maxHeartbeats 12800000 in
theorem eachR_any (h : Res R S st mp it seen w) (hp4 : ∀ p ∈ S.preds, p.kinds.length ≤ 4) {a : Option Addr} {c : Nat} (hl : RR R 11 (cRule R) w S.rules (.slice a S.rules.length c)) (hit : it ≤ 4096) (hn : S.rules.length ≤ 512) :
    Calls Tryz.prog 71 #[ptr R, .slice a S.rules.length c, .func (.func 72) #[ptr R] #[]] w fun e w' => Ee R S st mp it seen w (S.rules.mapIdx (ruleM S.ctx S.srcs S.heads)) e w' := by
  have H := hide h
  have HL := hide hl
  have HP4 := hide hp4
  clear hp4
  clear h hl
  go_enter Tryz.func71, Tryz.ntmps71
  go_wp2_with fail
  go_loopw [10] (fun x wr => ∃ i : Nat, i ≤ S.rules.length ∧ x = .int .i64 i ∧ Hid (Res R S st mp (it + i) seen wr) ∧ Hid (Fr (Zi R mp) w wr) ∧ Hid (AllOk ((S.rules.mapIdx (ruleM S.ctx S.srcs S.heads)).take i))) (fun x _ => S.rules.length - (intOf x).toNat)
  case atStart => exact ⟨0, by omega, rfl, H, hide (.refl _ _), hide (by rw [List.take_zero]; exact AllOk.nil)⟩
  case round =>
    obtain ⟨i, hi, rfl, HR, HF, HA⟩ := hrel
    by_cases hlt : i < S.rules.length
    · obtain ⟨x, hx⟩ : ∃ x, S.rules[i]? = some x := ⟨S.rules[i], List.getElem?_eq_getElem hlt⟩
      have HI : Hid ((S.rules.mapIdx (ruleM S.ctx S.srcs S.heads))[i]? = some ((ruleM S.ctx S.srcs S.heads) i x)) := by rw [List.getElem?_mapIdx, hx]; rfl
      have hl2 := RR.keep HL.out (zi_keep H.out HF.out) (fun _ _ h => h.keep (zi_keep H.out HF.out))
      obtain ⟨gg, oo, ba, bc, ka, kc, hga, hg, e0, e1, e2, e3, e4, e5, e6, e7, e8, e9, e10, hs, hs2, hs3, hbs, hks⟩ := at_R hl2 hx
      cases hga
      have hB : Below wr.heap.size wr (wr.alloc (.cells (ruleV x ba ka bc kc) 49)) := (Below.refl _ _).alloc (Nat.le_refl _) _
      have HRB := hide (HR.out.below hB)
      have HFB := hide (HF.out.trans (.of_below hB))
      have hBl : ∀ g, g < R → (wr.alloc (.cells (ruleV x ba ka bc kc) 49)).heap[g]? = wr.heap[g]? := fun g hg => hB.block g (by have := loc_lt HR.out.box; omega)
      have CK := hide (rule_any HRB.out HP4.out i x hs hs2 (Prems.keep hBl hbs) hs3 (Strs.keep hBl hks))
      unfold ruleV str at *
      clear hx hl2 hbs hks hB hBl
      go_wp2_with fail
      refine CK.out.mono ?_
      intro e w2 hE
      rcases hE.no with ⟨c1, h3, rfl, hf⟩ | ⟨_, v, h3, rfl, hrv, hf⟩
      · exact ⟨rfl, Ee.bad (HFB.out.trans (.of_below hf)) HA.out HI.out h3⟩
      have HA2 := hide (AllOk.snoc HA.out HI.out h3)
      have hR2 := HRB.out.below hf
      have HR2 := hide hR2.count
      have HF2 := hide ((HFB.out.trans (.of_below hf)).trans (.setCell ⟨R, 9, none⟩ (.int .i64 ((it + i + 1 : Nat) : Int)) (.inl rfl)))
      have r9 := hR2.c9
      have rz := hR2.frz 9
      have hcast : (((it + i : Nat) : Int) + 1) = ((it + i + 1 : Nat) : Int) := by omega
      clear hE h3 hf CK hR2 HR HF HA HI HRB HFB
      go_wp2_with fail
      go_roundw
      case rel => exact ⟨i + 1, by omega, by go_num, HR2, HF2, HA2⟩
      case measure => simp [intOf]; omega
    · go_wp2_with fail
      go_end0
      exact Ee.ok (n := i) HF.out (by rw [List.length_mapIdx]; omega) (by rw [List.length_mapIdx]; omega) HA.out HR.out
set_option maxRecDepth 100000 in
set_option maxHeartbeats 12800000 in
theorem eachE_any (h : Res R S st mp it seen w) {a : Option Addr} {c : Nat} (hl : RR R 2 cM w S.excepts (.slice a S.excepts.length c)) (hit : it ≤ 4096) (hn : S.excepts.length ≤ 512) :
    Calls Tryz.prog 73 #[ptr R, .slice a S.excepts.length c, .func (.func 74) #[ptr R] #[]] w fun e w' => Ee R S st mp it seen w (S.excepts.mapIdx (exceptM S.heads S.keys)) e w' := by
  have H := hide h
  have HL := hide hl
  clear h hl
  go_enter Tryz.func73, Tryz.ntmps73
  go_wp2_with fail
  go_loopw [10] (fun x wr => ∃ i : Nat, i ≤ S.excepts.length ∧ x = .int .i64 i ∧ Hid (Res R S st mp (it + i) seen wr) ∧ Hid (Fr (Zi R mp) w wr) ∧ Hid (AllOk ((S.excepts.mapIdx (exceptM S.heads S.keys)).take i))) (fun x _ => S.excepts.length - (intOf x).toNat)
  case atStart => exact ⟨0, by omega, rfl, H, hide (.refl _ _), hide (by rw [List.take_zero]; exact AllOk.nil)⟩
  case round =>
    obtain ⟨i, hi, rfl, HR, HF, HA⟩ := hrel
    by_cases hlt : i < S.excepts.length
    · obtain ⟨x, hx⟩ : ∃ x, S.excepts[i]? = some x := ⟨S.excepts[i], List.getElem?_eq_getElem hlt⟩
      have HI : Hid ((S.excepts.mapIdx (exceptM S.heads S.keys))[i]? = some ((exceptM S.heads S.keys) i x)) := by rw [List.getElem?_mapIdx, hx]; rfl
      have hl2 := RR.keep HL.out (zi_keep H.out HF.out) (fun _ _ h => h)
      obtain ⟨gg, oo, hga, hg, e0, e1, hs, hs2⟩ := at_M hl2 hx
      cases hga
      have hB : Below wr.heap.size wr (wr.alloc (.cells #[str x.1, str x.2] 41)) := (Below.refl _ _).alloc (Nat.le_refl _) _
      have HRB := hide (HR.out.below hB)
      have HFB := hide (HF.out.trans (.of_below hB))
      have hBl : ∀ g, g < R → (wr.alloc (.cells #[str x.1, str x.2] 41)).heap[g]? = wr.heap[g]? := fun g hg => hB.block g (by have := loc_lt HR.out.box; omega)
      have CK := hide (except_any HRB.out i x hs hs2)
      unfold str at *
      clear hx hl2 hB hBl
      go_wp2_with fail
      refine CK.out.mono ?_
      intro e w2 hE
      rcases hE.no with ⟨c1, h3, rfl, hf⟩ | ⟨_, v, h3, rfl, hrv, hf⟩
      · exact ⟨rfl, Ee.bad (HFB.out.trans (.of_below hf)) HA.out HI.out h3⟩
      have HA2 := hide (AllOk.snoc HA.out HI.out h3)
      have hR2 := HRB.out.below hf
      have HR2 := hide hR2.count
      have HF2 := hide ((HFB.out.trans (.of_below hf)).trans (.setCell ⟨R, 9, none⟩ (.int .i64 ((it + i + 1 : Nat) : Int)) (.inl rfl)))
      have r9 := hR2.c9
      have rz := hR2.frz 9
      have hcast : (((it + i : Nat) : Int) + 1) = ((it + i + 1 : Nat) : Int) := by omega
      clear hE h3 hf CK hR2 HR HF HA HI HRB HFB
      go_wp2_with fail
      go_roundw
      case rel => exact ⟨i + 1, by omega, by go_num, HR2, HF2, HA2⟩
      case measure => simp [intOf]; omega
    · go_wp2_with fail
      go_end0
      exact Ee.ok (n := i) HF.out (by rw [List.length_mapIdx]; omega) (by rw [List.length_mapIdx]; omega) HA.out HR.out
set_option maxRecDepth 100000 in
set_option maxHeartbeats 12800000 in
theorem eachT_any (h : Res R S st mp it seen w) {a : Option Addr} {c : Nat} (hl : RR R 5 (cTotal R) w S.totals (.slice a S.totals.length c)) (hit : it ≤ 4096) (hn : S.totals.length ≤ 512) :
    Calls Tryz.prog 75 #[ptr R, .slice a S.totals.length c, .func (.func 76) #[ptr R] #[]] w fun e w' => Ee R S st mp it seen w (S.totals.mapIdx (totalM S.ctx S.sums)) e w' := by
  have H := hide h
  have HL := hide hl
  clear h hl
  go_enter Tryz.func75, Tryz.ntmps75
  go_wp2_with fail
  go_loopw [10] (fun x wr => ∃ i : Nat, i ≤ S.totals.length ∧ x = .int .i64 i ∧ Hid (Res R S st mp (it + i) seen wr) ∧ Hid (Fr (Zi R mp) w wr) ∧ Hid (AllOk ((S.totals.mapIdx (totalM S.ctx S.sums)).take i))) (fun x _ => S.totals.length - (intOf x).toNat)
  case atStart => exact ⟨0, by omega, rfl, H, hide (.refl _ _), hide (by rw [List.take_zero]; exact AllOk.nil)⟩
  case round =>
    obtain ⟨i, hi, rfl, HR, HF, HA⟩ := hrel
    by_cases hlt : i < S.totals.length
    · obtain ⟨x, hx⟩ : ∃ x, S.totals[i]? = some x := ⟨S.totals[i], List.getElem?_eq_getElem hlt⟩
      have HI : Hid ((S.totals.mapIdx (totalM S.ctx S.sums))[i]? = some ((totalM S.ctx S.sums) i x)) := by rw [List.getElem?_mapIdx, hx]; rfl
      have hl2 := RR.keep HL.out (zi_keep H.out HF.out) (fun _ _ h => h.keep (zi_keep H.out HF.out))
      obtain ⟨gg, oo, ka, kc, hga, hg, e0, e1, e2, e3, e4, hs, hs2, hks⟩ := at_T hl2 hx
      cases hga
      have hB : Below wr.heap.size wr (wr.alloc (.cells #[.string ⟨x.name.toArray⟩, .string ⟨x.kind.toArray⟩, .slice ka x.preds.length kc, .bool x.hasCap, .int .i64 x.cap] 129)) := (Below.refl _ _).alloc (Nat.le_refl _) _
      have HRB := hide (HR.out.below hB)
      have HFB := hide (HF.out.trans (.of_below hB))
      have hBl : ∀ g, g < R → (wr.alloc (.cells #[.string ⟨x.name.toArray⟩, .string ⟨x.kind.toArray⟩, .slice ka x.preds.length kc, .bool x.hasCap, .int .i64 x.cap] 129)).heap[g]? = wr.heap[g]? := fun g hg => hB.block g (by have := loc_lt HR.out.box; omega)
      have CK := hide (total_any HRB.out i x hs hs2 (Strs.keep hBl hks))
      unfold str at *
      clear hx hl2 hks hB hBl
      go_wp2_with fail
      refine CK.out.mono ?_
      intro e w2 hE
      rcases hE.no with ⟨c1, h3, rfl, hf⟩ | ⟨_, v, h3, rfl, hrv, hf⟩
      · exact ⟨rfl, Ee.bad (HFB.out.trans (.of_below hf)) HA.out HI.out h3⟩
      have HA2 := hide (AllOk.snoc HA.out HI.out h3)
      have hR2 := HRB.out.below hf
      have HR2 := hide hR2.count
      have HF2 := hide ((HFB.out.trans (.of_below hf)).trans (.setCell ⟨R, 9, none⟩ (.int .i64 ((it + i + 1 : Nat) : Int)) (.inl rfl)))
      have r9 := hR2.c9
      have rz := hR2.frz 9
      have hcast : (((it + i : Nat) : Int) + 1) = ((it + i + 1 : Nat) : Int) := by omega
      clear hE h3 hf CK hR2 HR HF HA HI HRB HFB
      go_wp2_with fail
      go_roundw
      case rel => exact ⟨i + 1, by omega, by go_num, HR2, HF2, HA2⟩
      case measure => simp [intOf]; omega
    · go_wp2_with fail
      go_end0
      exact Ee.ok (n := i) HF.out (by rw [List.length_mapIdx]; omega) (by rw [List.length_mapIdx]; omega) HA.out HR.out
end
end Go.Proofs.YtbdlgglbcaoakaaGreat
