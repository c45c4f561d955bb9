import Derived.Test.YtbpphlmakmeoaaaGreatDoorKdAll
set_option maxRecDepth 100000
set_option maxHeartbeats 3200000
namespace Go.Proofs.YtbpphlmakmeoaaaGreatDoor.Sy
open Go.RowKit
theorem tL (w : World) (l : List ee) (sv : Value) (hp : Strs Any w l sv) (hl : jX l) : Calls Tryz.prog 205 #[sv, .func (.func 139) #[] #[]] w (fp (fd (l.map some)) w) := by
 have HP := ec hp
 have HL := ec hl
 obtain ⟨pa, pc, rfl⟩ := ed hp
 clear hp hl
 have Ab : Hid (Below w.heap.size w ((w.alloc (.cells #[.slice pa l.length pc] 22)).alloc (.cells #[.func (.func 139) #[] #[]] 152))) := ec (((Below.refl _ _).alloc (Nat.le_refl _) _).alloc (by simp) _)
 have Aa := ec (gL w (.cells #[.slice pa l.length pc] 22) (.cells #[.func (.func 139) #[] #[]] 152))
 go_enter Tryz.func205, Tryz.ntmps205
 go_wp2_with fail
 go_ret
 refine ⟨_, rfl, ⟨_, _, rfl, fA Tryz.func257 (by kernel_rfl) (by kernel_rfl), fun R told w2 hk hW => ?_⟩, Ab.out⟩
 have Ae := hk _ _ _ _ Aa.out.1 (by decide) (by decide)
 have Ad := hk _ _ _ _ Aa.out.2 (by decide) (by decide)
 have Ac := (Keeps.of_below Ab.out).trans hk
 exact o5 R told w2 hW l _ _ _ Ae Ad (Strs.keep (T := ei) HP.out (eM Ac) (by decide)) HL.out
theorem rl (w : World) (l : List Int) (sv : Value) (hp : Moneys Any w l sv) (hl : l.length ≤ 1000000000) : Calls Tryz.prog 141 #[sv, .func (.func 142) #[] #[]] w (fp (fd (l.map XP.money)) w) := by
 have HP := ec hp
 have HL := ec hl
 obtain ⟨pa, pc, rfl⟩ := ed hp
 clear hp hl
 have Ab : Hid (Below w.heap.size w ((w.alloc (.cells #[.slice pa l.length pc] 126)).alloc (.cells #[.func (.func 142) #[] #[]] 212))) := ec (((Below.refl _ _).alloc (Nat.le_refl _) _).alloc (by simp) _)
 have Aa := ec (gL w (.cells #[.slice pa l.length pc] 126) (.cells #[.func (.func 142) #[] #[]] 212))
 go_enter Tryz.func141, Tryz.ntmps141
 go_wp2_with fail
 go_ret
 refine ⟨_, rfl, ⟨_, _, rfl, fA Tryz.func202 (by kernel_rfl) (by kernel_rfl), fun R told w2 hk hW => ?_⟩, Ab.out⟩
 have Ae := hk _ _ _ _ Aa.out.1 (by decide) (by decide)
 have Ad := hk _ _ _ _ Aa.out.2 (by decide) (by decide)
 have Ac := (Keeps.of_below Ab.out).trans hk
 exact nU R told w2 hW l _ _ _ Ae Ad (Moneys.keep (T := ei) HP.out (eM Ac) (by decide)) HL.out
theorem oo (w : World) (l : List ee) (sv : Value) (hp : Strs Any w l sv) (hl : jX l) : Calls Tryz.prog 144 #[sv] w (fp (hU l) w) := by
 have C := ec (tL w l sv hp hl)
 obtain ⟨pa, pc, rfl⟩ := ed hp
 clear hp hl
 go_enter Tryz.func144, Tryz.ntmps144
 go_wp2_with fail
 refine C.out.mono ?_
 rintro _ w1 ⟨v, rfl, hv, hb⟩
 obtain ⟨k, Aa, rfl, hf, hc⟩ := hv
 have HF : Hid (fp (hU l) w (.returned (.func (.func k) #[] Aa)) w1) := ec ⟨_, rfl, ⟨k, Aa, rfl, hf, hc⟩, hb⟩
 clear hf hc hb C
 go_wp2_with fail
 go_ret
 exact HF.out
theorem kY (w : World) (l : List ee) (sv : Value) (hp : Strs Any w l sv) (hl : jX l) : Calls Tryz.prog 140 #[sv] w (fp (iA l) w) := by
 have HP := ec hp
 have HL := ec hl
 have Am := hl.len
 obtain ⟨pa, pc, rfl⟩ := ed hp
 have C1 := ec (fG _ [40] _ (fh w [[40]] (by unfold maxLen; simp)) (by decide))
 have G1 := ec (Grows.alloc w (.cells #[.string ⟨#[40]⟩] 9))
 clear hp hl
 go_enter Tryz.func140, Tryz.ntmps140
 go_wp2_with fail
 refine C1.out.mono ?_
 rintro _ w1 ⟨v1, rfl, Af, Ae⟩
 have Ab := Grows.trans G1.out Ae
 have V1 := ec Af
 have C2 := ec (oo w1 l _ (Strs.keep (T := ei) HP.out (eM Ab.keeps) (by decide)) HL.out)
 obtain ⟨k1, q1, rfl, _, _⟩ := Af
 have G2 := ec Ab
 clear Ae Ab C1 G1
 go_wp2_with fail
 refine C2.out.mono ?_
 rintro _ w2 ⟨v2, rfl, Ai, Ad⟩
 have V1b := ec (V1.out.keep (Keeps.of_below Ad))
 have V2 := ec Ai
 have C3 := ec (fG _ [41] _ (fh w2 [[41]] (by unfold maxLen; simp)) (by decide))
 have G3 := ec (Grows.trans (Grows.trans G2.out Ad) (Grows.alloc w2 (.cells #[.string ⟨#[41]⟩] 9)))
 obtain ⟨k2, q2, rfl, _, _⟩ := Ai
 clear Ad C2 G2 V1
 go_wp2_with fail
 refine C3.out.mono ?_
 rintro _ w3 ⟨v3, rfl, Ak, Ac⟩
 have Aa := (Grows.alloc w2 (.cells #[.string ⟨#[41]⟩] 9)).keeps.trans (Keeps.of_below Ac)
 have C4 := ec (hM _ [some [40], hU l, some [41]] _ (fF w3 [some [40], hU l, some [41]] [.func (.func k1) #[] q1, .func (.func k2) #[] q2, v3] rfl (by unfold maxLen; simp) ⟨V1b.out.keep Aa, V2.out.keep Aa, Ak, trivial⟩) (by simp))
 obtain ⟨k3, q3, rfl, _, _⟩ := Ak
 have G4 := ec (Grows.trans (Grows.trans G3.out Ac) (Grows.alloc w3 (.cells #[.func (.func k1) #[] q1, .func (.func k2) #[] q2, .func (.func k3) #[] q3] 86)))
 clear Ac C3 G3 Aa V1b V2
 go_wp2_with fail
 refine C4.out.mono ?_
 rintro _ w4 ⟨v4, rfl, Ah, Aj⟩
 have C5 := ec (iw w4 (decide (0 < l.length)) _ _ Ah)
 obtain ⟨k4, q4, rfl, _, _⟩ := Ah
 have G5 := ec (Grows.trans G4.out Aj)
 clear Aj C4 G4
 go_wp2_with fail
 refine C5.out.mono ?_
 rintro _ w5 ⟨v5, rfl, Al, Ag⟩
 obtain ⟨k5, q5, rfl, hf, hc⟩ := Al
 have HF : Hid (fp (iA l) w (.returned (.func (.func k5) #[] q5)) w5) := ec ⟨_, rfl, ⟨k5, q5, rfl, hf, hc⟩, Grows.trans G5.out Ag⟩
 clear hf hc Ag C5
 go_wp2_with fail
 go_ret
 exact HF.out
theorem A7 (w : World) (x : ee) (hx : fC x) : Calls Tryz.prog 75 #[.string ⟨x.toArray⟩] w (fp (ii x) w) := by
 have C := ec (iV _ [[107, 105, 110, 100, 32], x] _ (fh w [[107, 105, 110, 100, 32], x] (by unfold maxLen; simp)) (by simp) (by intro x hx; simp only [List.mem_cons, List.not_mem_nil, or_false] at hx; rcases hx with rfl | rfl <;> first | decide | exact hx))
 have HB := ec (Grows.alloc w (.cells #[.string ⟨#[107, 105, 110, 100, 32]⟩, .string ⟨(x).toArray⟩] 9))
 go_enter Tryz.func75, Tryz.ntmps75
 go_wp2_with fail
 refine C.out.mono ?_
 rintro _ w1 ⟨v, rfl, hv, hb⟩
 obtain ⟨k, Aa, rfl, hf, hc⟩ := hv
 have HF : Hid (fp (ii x) w (.returned (.func (.func k) #[] Aa)) w1) := ec ⟨_, rfl, ⟨k, Aa, rfl, hf, hc⟩, Grows.trans HB.out hb⟩
 clear hf hc hb C
 go_wp2_with fail
 go_ret
 exact HF.out
theorem wl (w : World) (a : ee × ee) (h1 : fC a.1) (h2 : fC a.2) : Calls Tryz.prog 77 #[.agg #[.string ⟨a.1.toArray⟩, .string ⟨a.2.toArray⟩]] w (fp (gm a) w) := by
 have C := ec (iV _ [[109, 101, 109, 98, 101, 114, 32], a.1, [32, 58, 32], a.2] _ (fh (w.alloc (.cells #[.string ⟨a.1.toArray⟩, .string ⟨a.2.toArray⟩] 124)) [[109, 101, 109, 98, 101, 114, 32], a.1, [32, 58, 32], a.2] (by unfold maxLen; simp)) (by simp) (by intro x hx; simp only [List.mem_cons, List.not_mem_nil, or_false] at hx; rcases hx with rfl | rfl | rfl | rfl <;> first | decide | exact h1 | exact h2))
 rw [show (w.alloc (.cells #[.string ⟨a.1.toArray⟩, .string ⟨a.2.toArray⟩] 124)).heap.size = w.heap.size + 1 by simp] at C
 have HB := ec (Grows.trans (Grows.alloc w (.cells #[.string ⟨a.1.toArray⟩, .string ⟨a.2.toArray⟩] 124)) (Grows.alloc (w.alloc (.cells #[.string ⟨a.1.toArray⟩, .string ⟨a.2.toArray⟩] 124)) (.cells #[.string ⟨#[109, 101, 109, 98, 101, 114, 32]⟩, .string ⟨(a.1).toArray⟩, .string ⟨#[32, 58, 32]⟩, .string ⟨(a.2).toArray⟩] 9)))
 go_enter Tryz.func77, Tryz.ntmps77
 go_wp2_with fail
 refine C.out.mono ?_
 rintro _ w1 ⟨v, rfl, hv, hb⟩
 obtain ⟨k, Aa, rfl, hf, hc⟩ := hv
 have HF : Hid (fp (gm a) w (.returned (.func (.func k) #[] Aa)) w1) := ec ⟨_, rfl, ⟨k, Aa, rfl, hf, hc⟩, Grows.trans HB.out hb⟩
 clear hf hc hb C
 go_wp2_with fail
 go_ret
 exact HF.out
theorem sE (w : World) (a : ee × ee) (h1 : fC a.1) (h2 : fC a.2) : Calls Tryz.prog 87 #[.agg #[.string ⟨a.1.toArray⟩, .string ⟨a.2.toArray⟩]] w (fp (gn a) w) := by
 have C := ec (iV _ [[101, 120, 99, 101, 112, 116, 105, 111, 110, 32], a.1, [32, 116, 111, 32], a.2] _ (fh (w.alloc (.cells #[.string ⟨a.1.toArray⟩, .string ⟨a.2.toArray⟩] 133)) [[101, 120, 99, 101, 112, 116, 105, 111, 110, 32], a.1, [32, 116, 111, 32], a.2] (by unfold maxLen; simp)) (by simp) (by intro x hx; simp only [List.mem_cons, List.not_mem_nil, or_false] at hx; rcases hx with rfl | rfl | rfl | rfl <;> first | decide | exact h1 | exact h2))
 rw [show (w.alloc (.cells #[.string ⟨a.1.toArray⟩, .string ⟨a.2.toArray⟩] 133)).heap.size = w.heap.size + 1 by simp] at C
 have HB := ec (Grows.trans (Grows.alloc w (.cells #[.string ⟨a.1.toArray⟩, .string ⟨a.2.toArray⟩] 133)) (Grows.alloc (w.alloc (.cells #[.string ⟨a.1.toArray⟩, .string ⟨a.2.toArray⟩] 133)) (.cells #[.string ⟨#[101, 120, 99, 101, 112, 116, 105, 111, 110, 32]⟩, .string ⟨(a.1).toArray⟩, .string ⟨#[32, 116, 111, 32]⟩, .string ⟨(a.2).toArray⟩] 9)))
 go_enter Tryz.func87, Tryz.ntmps87
 go_wp2_with fail
 refine C.out.mono ?_
 rintro _ w1 ⟨v, rfl, hv, hb⟩
 obtain ⟨k, Aa, rfl, hf, hc⟩ := hv
 have HF : Hid (fp (gn a) w (.returned (.func (.func k) #[] Aa)) w1) := ec ⟨_, rfl, ⟨k, Aa, rfl, hf, hc⟩, Grows.trans HB.out hb⟩
 clear hf hc hb C
 go_wp2_with fail
 go_ret
 exact HF.out
theorem zn (w : World) (l : List ee) (sv : Value) (hp : Strs Any w l sv) (hl : jX l) : Calls Tryz.prog 81 #[sv] w (fp (gM l) w) := by
 have HP := ec hp
 have HL := ec hl
 obtain ⟨pa, pc, rfl⟩ := ed hp
 have C1 := ec (fG _ [99, 108, 97, 115, 115, 32] _ (fh w [[99, 108, 97, 115, 115, 32]] (by unfold maxLen; simp)) (by decide))
 have G1 := ec (Grows.alloc w (.cells #[.string ⟨#[99, 108, 97, 115, 115, 32]⟩] 9))
 clear hp hl
 go_enter Tryz.func81, Tryz.ntmps81
 go_wp2_with fail
 refine C1.out.mono ?_
 rintro _ w1 ⟨v1, rfl, Ad, Ac⟩
 have Aa := Grows.trans G1.out Ac
 have V1 := ec Ad
 have C2 := ec (oo w1 l _ (Strs.keep (T := ei) HP.out (eM Aa.keeps) (by decide)) HL.out)
 obtain ⟨k1, q1, rfl, _, _⟩ := Ad
 have G2 := ec Aa
 clear Ac Aa C1 G1
 go_wp2_with fail
 refine C2.out.mono ?_
 rintro _ w2 ⟨v2, rfl, Ae, Ab⟩
 have C4 := ec (hM _ [some [99, 108, 97, 115, 115, 32], hU l] _ (fF w2 [some [99, 108, 97, 115, 115, 32], hU l] [.func (.func k1) #[] q1, v2] rfl (by unfold maxLen; simp) ⟨V1.out.keep (Keeps.of_below Ab), Ae, trivial⟩) (by simp))
 obtain ⟨k3, q3, rfl, _, _⟩ := Ae
 have G4 := ec (Grows.trans (Grows.trans G2.out Ab) (Grows.alloc w2 (.cells #[.func (.func k1) #[] q1, .func (.func k3) #[] q3] 86)))
 clear Ab C2 G2 V1
 go_wp2_with fail
 refine C4.out.mono ?_
 rintro _ w4 ⟨v4, rfl, Ag, Af⟩
 obtain ⟨k5, q5, rfl, hf, hc⟩ := Ag
 have HF : Hid (fp (gM l) w (.returned (.func (.func k5) #[] q5)) w4) := ec ⟨_, rfl, ⟨k5, q5, rfl, hf, hc⟩, Grows.trans G4.out Af⟩
 clear hf hc Af C4
 go_wp2_with fail
 go_ret
 exact HF.out
theorem pq (w : World) (a : jQ) (v : Value) (hv : vG Any w a v) (hfit : ng a) : Calls Tryz.prog 151 #[v] w (fp (kr XP a) w) := by
 obtain ⟨av, rfl, hx⟩ := hv
 have HFit := ec hfit
 obtain ⟨pa, pc, rfl⟩ := ed hx
 obtain ⟨wB, Aa⟩ : ∃ x, x = w.alloc (.cells #[.bool a.neg, .string ⟨a.pred.toArray⟩, .slice pa a.args.length pc, .bool a.hasValue, .int .i64 a.value] 47) := ⟨_, rfl⟩
 have Ah : Hid (Grows w wB) := ec (Aa ▸ Grows.alloc _ _)
 have hN : wB.heap[w.heap.size]? = some (.cells #[.bool a.neg, .string ⟨a.pred.toArray⟩, .slice pa a.args.length pc, .bool a.hasValue, .int .i64 a.value] 47 (0, 0)) := Aa ▸ heap_alloc_new w _
 have c0 : wB.cell? ⟨w.heap.size, 0, none⟩ = some (.bool a.neg) := cell_of_row wB w.heap.size 0 _ 47 _ hN
 have c1 : wB.cell? ⟨w.heap.size, 1, none⟩ = some (.string ⟨a.pred.toArray⟩) := cell_of_row wB w.heap.size 1 _ 47 _ hN
 have c2 : wB.cell? ⟨w.heap.size, 2, none⟩ = some (.slice pa a.args.length pc) := cell_of_row wB w.heap.size 2 _ 47 _ hN
 have c3 : wB.cell? ⟨w.heap.size, 3, none⟩ = some (.bool a.hasValue) := cell_of_row wB w.heap.size 3 _ 47 _ hN
 have c4 : wB.cell? ⟨w.heap.size, 4, none⟩ = some (.int .i64 a.value) := cell_of_row wB w.heap.size 4 _ 47 _ hN
 have An : Hid (Kd.holds (.strs a.args) wB (.slice pa a.args.length pc)) := ec (Kd.keep (k := .strs a.args) Ah.out.keeps hx)
 clear hN
 clear hx hfit
 go_enter Tryz.func151, Tryz.ntmps151
 go_wp2_with fail
 rename_i K hK
 rw [← Aa]
 refine gE (B := [1]) rN Grows (nj wB) (Gk [.any, .val (.pointer (some ⟨w.heap.size, 0, none⟩)), .part (ez [ey (a.neg) (some [45]), some (a.pred), iA (a.args), ey (a.hasValue) (ez [some [32, 61, 32], XP.money (a.value)])]), .val (.pointer (some ⟨w.heap.size, 0, none⟩)), .val (.bool a.neg), .strs ([[45]]), .part (some [45]), .part (ey (a.neg) (some [45])), .val (.pointer (some ⟨w.heap.size, 1, none⟩)), .val (.string ⟨a.pred.toArray⟩), .part (some (a.pred)), .val (.pointer (some ⟨w.heap.size, 2, none⟩)), .strs (a.args), .part (iA (a.args)), .val (.pointer (some ⟨w.heap.size, 3, none⟩)), .val (.bool a.hasValue), .strs ([[32, 61, 32]]), .part (some [32, 61, 32]), .val (.pointer (some ⟨w.heap.size, 4, none⟩)), .val (.int .i64 a.value), .part (XP.money (a.value)), .parts [some [32, 61, 32], XP.money (a.value)], .part (ez [some [32, 61, 32], XP.money (a.value)]), .part (ey (a.hasValue) (ez [some [32, 61, 32], XP.money (a.value)])), .parts [ey (a.neg) (some [45]), some (a.pred), iA (a.args), ey (a.hasValue) (ez [some [32, 61, 32], XP.money (a.value)])], .part (ez [ey (a.neg) (some [45]), some (a.pred), iA (a.args), ey (a.hasValue) (ez [some [32, 61, 32], XP.money (a.value)])])]) 1000 (by kernel_rfl) (by kernel_rfl) (eZ (by kernel_rfl)) (jh (by kernel_rfl)) (fun s w w' v h => Gk.keep s w w' v h) (Grows.drew _) ?hb (ia ⟨?_, ?_, ?_, ?_, ?_, ?_, ?_, ?_, ?_, ?_, ?_, ?_, ?_, ?_, ?_, ?_, ?_, ?_, ?_, ?_, ?_, ?_, ?_, ?_, trivial⟩) (fun _ _ _ _ h => h.elim) ?hend
 case hb =>
  intro s hs
  simp only [List.mem_cons, List.not_mem_nil, or_false] at hs
  rcases hs with rfl <;> rfl
 case hend =>
  rintro ⟨tm, df⟩ w' _ Ag hI _ Ai
  simp only at Ag
  subst Ag
  have hv := Ai 23 2 rfl
  refine hK _ _ (j0 (t := 2) Tryz.results151 rfl ⟨_, rfl, ?_, Grows.trans Ah.out hI⟩)
  exact hv
 · intro ρ W b hc hf _ hI hg
   have g1 : ρ (.tmp 1) = .pointer (some ⟨w.heap.size, 0, none⟩) := hg 1 (by decide)
   refine ef (v := .pointer (some ⟨w.heap.size, 0, none⟩)) (w' := W) ?_ ⟨Grows.refl _, hI, fun d hd => by cases hd; exact rfl⟩
   clear hg hc hf
   go_simp
 · intro ρ W b hc hf _ hI hg
   have g3 : ρ (.tmp 3) = .pointer (some ⟨w.heap.size, 0, none⟩) := hg 3 (by decide)
   have d0 := Grows.cell hI c0
   refine ef (v := .bool a.neg) (w' := W) ?_ ⟨Grows.refl _, hI, fun d hd => by cases hd; exact rfl⟩
   clear hg hc hf
   go_simp
 · intro ρ W b hc hf _ hI hg
   have k0 := hc (.string ⟨#[45]⟩)
   refine ef (v := .slice (some ⟨W.heap.size, 0, none⟩) 1 1) (w' := W.alloc (.cells #[.string ⟨#[45]⟩] 9)) ?_ ⟨Grows.alloc _ _, Grows.trans hI (Grows.alloc _ _), fun d hd => by cases hd; exact fh W [[45]] (by unfold maxLen; simp)⟩
   clear hg hc hf
   go_simp
 · intro ρ W b hc hf _ hI hg
   have g5 : Strs Any W ([[45]]) (ρ (.tmp 5)) := hg 5 (by decide)
   have k0 := hf 73
   refine es (f := 73) (args := #[ρ (.tmp 5)]) (w' := W) ?_ (fG W [45] _ g5 (by decide)) ?_
   · clear hg hc hf
     go_simp
   · rintro e W' ⟨v, rfl, hv, hb⟩
     exact ⟨v, rfl, hb, Grows.trans hI hb, fun d hd => by cases hd; exact hv⟩
 · intro ρ W b hc hf _ hI hg
   have g4 : ρ (.tmp 4) = .bool a.neg := hg 4 (by decide)
   have g6 : Tells (some [45]) W (ρ (.tmp 6)) := hg 6 (by decide)
   have k0 := hf 71
   refine es (f := 71) (args := #[.bool (a.neg), ρ (.tmp 6)]) (w' := W) ?_ (iw W (a.neg) (some [45]) _ g6) ?_
   · clear hg hc hf
     go_simp
   · rintro e W' ⟨v, rfl, hv, hb⟩
     exact ⟨v, rfl, hb, Grows.trans hI hb, fun d hd => by cases hd; exact hv⟩
 · intro ρ W b hc hf _ hI hg
   have g1 : ρ (.tmp 1) = .pointer (some ⟨w.heap.size, 0, none⟩) := hg 1 (by decide)
   refine ef (v := .pointer (some ⟨w.heap.size, 1, none⟩)) (w' := W) ?_ ⟨Grows.refl _, hI, fun d hd => by cases hd; exact rfl⟩
   clear hg hc hf
   go_simp
 · intro ρ W b hc hf _ hI hg
   have g8 : ρ (.tmp 8) = .pointer (some ⟨w.heap.size, 1, none⟩) := hg 8 (by decide)
   have d0 := Grows.cell hI c1
   refine ef (v := .string ⟨a.pred.toArray⟩) (w' := W) ?_ ⟨Grows.refl _, hI, fun d hd => by cases hd; exact rfl⟩
   clear hg hc hf
   go_simp
 · intro ρ W b hc hf _ hI hg
   have g9 : ρ (.tmp 9) = .string ⟨a.pred.toArray⟩ := hg 9 (by decide)
   have k0 := hf 139
   refine es (f := 139) (args := #[.string ⟨(a.pred).toArray⟩]) (w' := W) ?_ (nS W (a.pred) HFit.out.pred) ?_
   · clear hg hc hf
     go_simp
   · rintro e W' ⟨v, rfl, hv, hb⟩
     exact ⟨v, rfl, hb, Grows.trans hI hb, fun d hd => by cases hd; exact hv⟩
 · intro ρ W b hc hf _ hI hg
   have g1 : ρ (.tmp 1) = .pointer (some ⟨w.heap.size, 0, none⟩) := hg 1 (by decide)
   refine ef (v := .pointer (some ⟨w.heap.size, 2, none⟩)) (w' := W) ?_ ⟨Grows.refl _, hI, fun d hd => by cases hd; exact rfl⟩
   clear hg hc hf
   go_simp
 · intro ρ W b hc hf _ hI hg
   have At : ρ (.tmp 11) = .pointer (some ⟨w.heap.size, 2, none⟩) := hg 11 (by decide)
   have d0 := Grows.cell hI c2
   refine ef (v := .slice pa a.args.length pc) (w' := W) ?_ ⟨Grows.refl _, hI, fun d hd => by cases hd; exact (Kd.keep (k := .strs (a.args)) (Grows.keeps hI) An.out)⟩
   clear hg hc hf
   go_simp
 · intro ρ W b hc hf _ hI hg
   have Ak : Strs Any W (a.args) (ρ (.tmp 12)) := hg 12 (by decide)
   have k0 := hf 140
   refine es (f := 140) (args := #[ρ (.tmp 12)]) (w' := W) ?_ (kY W (a.args) _ Ak HFit.out.args) ?_
   · clear hg hc hf
     go_simp
   · rintro e W' ⟨v, rfl, hv, hb⟩
     exact ⟨v, rfl, hb, Grows.trans hI hb, fun d hd => by cases hd; exact hv⟩
 · intro ρ W b hc hf _ hI hg
   have g1 : ρ (.tmp 1) = .pointer (some ⟨w.heap.size, 0, none⟩) := hg 1 (by decide)
   refine ef (v := .pointer (some ⟨w.heap.size, 3, none⟩)) (w' := W) ?_ ⟨Grows.refl _, hI, fun d hd => by cases hd; exact rfl⟩
   clear hg hc hf
   go_simp
 · intro ρ W b hc hf _ hI hg
   have Ar : ρ (.tmp 14) = .pointer (some ⟨w.heap.size, 3, none⟩) := hg 14 (by decide)
   have d0 := Grows.cell hI c3
   refine ef (v := .bool a.hasValue) (w' := W) ?_ ⟨Grows.refl _, hI, fun d hd => by cases hd; exact rfl⟩
   clear hg hc hf
   go_simp
 · intro ρ W b hc hf _ hI hg
   have k0 := hc (.string ⟨#[32, 61, 32]⟩)
   refine ef (v := .slice (some ⟨W.heap.size, 0, none⟩) 1 1) (w' := W.alloc (.cells #[.string ⟨#[32, 61, 32]⟩] 9)) ?_ ⟨Grows.alloc _ _, Grows.trans hI (Grows.alloc _ _), fun d hd => by cases hd; exact fh W [[32, 61, 32]] (by unfold maxLen; simp)⟩
   clear hg hc hf
   go_simp
 · intro ρ W b hc hf _ hI hg
   have Ap : Strs Any W ([[32, 61, 32]]) (ρ (.tmp 16)) := hg 16 (by decide)
   have k0 := hf 73
   refine es (f := 73) (args := #[ρ (.tmp 16)]) (w' := W) ?_ (fG W [32, 61, 32] _ Ap (by decide)) ?_
   · clear hg hc hf
     go_simp
   · rintro e W' ⟨v, rfl, hv, hb⟩
     exact ⟨v, rfl, hb, Grows.trans hI hb, fun d hd => by cases hd; exact hv⟩
 · intro ρ W b hc hf _ hI hg
   have g1 : ρ (.tmp 1) = .pointer (some ⟨w.heap.size, 0, none⟩) := hg 1 (by decide)
   refine ef (v := .pointer (some ⟨w.heap.size, 4, none⟩)) (w' := W) ?_ ⟨Grows.refl _, hI, fun d hd => by cases hd; exact rfl⟩
   clear hg hc hf
   go_simp
 · intro ρ W b hc hf _ hI hg
   have Au : ρ (.tmp 18) = .pointer (some ⟨w.heap.size, 4, none⟩) := hg 18 (by decide)
   have d0 := Grows.cell hI c4
   refine ef (v := .int .i64 a.value) (w' := W) ?_ ⟨Grows.refl _, hI, fun d hd => by cases hd; exact rfl⟩
   clear hg hc hf
   go_simp
 · intro ρ W b hc hf _ hI hg
   have AE : ρ (.tmp 19) = .int .i64 a.value := hg 19 (by decide)
   have k0 := hf 142
   refine es (f := 142) (args := #[.int .i64 (a.value)]) (w' := W) ?_ (lk W (a.value)) ?_
   · clear hg hc hf
     go_simp
   · rintro e W' ⟨v, rfl, hv, hb⟩
     exact ⟨v, rfl, hb, Grows.trans hI hb, fun d hd => by cases hd; exact hv⟩
 · intro ρ W b hc hf _ hI hg
   have Ad : Tells (some [32, 61, 32]) W (ρ (.tmp 17)) := hg 17 (by decide)
   have Ab : Tells (XP.money (a.value)) W (ρ (.tmp 20)) := hg 20 (by decide)
   have hP := fF W [some [32, 61, 32], XP.money (a.value)] [ρ (.tmp 17), ρ (.tmp 20)] rfl (by unfold maxLen; simp) ⟨Ad, Ab, trivial⟩
   obtain ⟨AJ, AG, AA, -, -⟩ := Ad
   obtain ⟨AB, Av, Ay, -, -⟩ := Ab
   refine ef (v := .slice (some ⟨W.heap.size, 0, none⟩) 2 2) (w' := W.alloc (.cells #[ρ (.tmp 17), ρ (.tmp 20)] 86)) ?_ ⟨Grows.alloc _ _, Grows.trans hI (Grows.alloc _ _), fun d hd => by cases hd; exact hP⟩
   clear hg hc hf hP
   go_simp
 · intro ρ W b hc hf _ hI hg
   have Aj : Parts W [some [32, 61, 32], XP.money (a.value)] (ρ (.tmp 21)) := hg 21 (by decide)
   have k0 := hf 70
   refine es (f := 70) (args := #[ρ (.tmp 21)]) (w' := W) ?_ (hM W [some [32, 61, 32], XP.money (a.value)] _ Aj (by simp)) ?_
   · clear hg hc hf
     go_simp
   · rintro e W' ⟨v, rfl, hv, hb⟩
     exact ⟨v, rfl, hb, Grows.trans hI hb, fun d hd => by cases hd; exact hv⟩
 · intro ρ W b hc hf _ hI hg
   have AD : ρ (.tmp 15) = .bool a.hasValue := hg 15 (by decide)
   have Al : Tells (ez [some [32, 61, 32], XP.money (a.value)]) W (ρ (.tmp 22)) := hg 22 (by decide)
   have k0 := hf 71
   refine es (f := 71) (args := #[.bool (a.hasValue), ρ (.tmp 22)]) (w' := W) ?_ (iw W (a.hasValue) (ez [some [32, 61, 32], XP.money (a.value)]) _ Al) ?_
   · clear hg hc hf
     go_simp
   · rintro e W' ⟨v, rfl, hv, hb⟩
     exact ⟨v, rfl, hb, Grows.trans hI hb, fun d hd => by cases hd; exact hv⟩
 · intro ρ W b hc hf _ hI hg
   have g7 : Tells (ey (a.neg) (some [45])) W (ρ (.tmp 7)) := hg 7 (by decide)
   have Af : Tells (some (a.pred)) W (ρ (.tmp 10)) := hg 10 (by decide)
   have Ae : Tells (iA (a.args)) W (ρ (.tmp 13)) := hg 13 (by decide)
   have Ac : Tells (ey (a.hasValue) (ez [some [32, 61, 32], XP.money (a.value)])) W (ρ (.tmp 23)) := hg 23 (by decide)
   have hP := fF W [ey (a.neg) (some [45]), some (a.pred), iA (a.args), ey (a.hasValue) (ez [some [32, 61, 32], XP.money (a.value)])] [ρ (.tmp 7), ρ (.tmp 10), ρ (.tmp 13), ρ (.tmp 23)] rfl (by unfold maxLen; simp) ⟨g7, Af, Ae, Ac, trivial⟩
   obtain ⟨k7, q7, e7, -, -⟩ := g7
   obtain ⟨Aw, AI, AF, -, -⟩ := Af
   obtain ⟨AC, Aq, As, -, -⟩ := Ae
   obtain ⟨AH, Az, Ax, -, -⟩ := Ac
   refine ef (v := .slice (some ⟨W.heap.size, 0, none⟩) 4 4) (w' := W.alloc (.cells #[ρ (.tmp 7), ρ (.tmp 10), ρ (.tmp 13), ρ (.tmp 23)] 86)) ?_ ⟨Grows.alloc _ _, Grows.trans hI (Grows.alloc _ _), fun d hd => by cases hd; exact hP⟩
   clear hg hc hf hP
   go_simp
 · intro ρ W b hc hf _ hI hg
   have Ao : Parts W [ey (a.neg) (some [45]), some (a.pred), iA (a.args), ey (a.hasValue) (ez [some [32, 61, 32], XP.money (a.value)])] (ρ (.tmp 24)) := hg 24 (by decide)
   have k0 := hf 70
   refine es (f := 70) (args := #[ρ (.tmp 24)]) (w' := W) ?_ (hM W [ey (a.neg) (some [45]), some (a.pred), iA (a.args), ey (a.hasValue) (ez [some [32, 61, 32], XP.money (a.value)])] _ Ao (by simp)) ?_
   · clear hg hc hf
     go_simp
   · rintro e W' ⟨v, rfl, hv, hb⟩
     exact ⟨v, rfl, hb, Grows.trans hI hb, fun d hd => by cases hd; exact hv⟩
 · intro ρ W b hc hf _ hI hg
   have Am : Tells (ez [ey (a.neg) (some [45]), some (a.pred), iA (a.args), ey (a.hasValue) (ez [some [32, 61, 32], XP.money (a.value)])]) W (ρ (.tmp 25)) := hg 25 (by decide)
   exact ef (v := ρ (.tmp 25)) (w' := W) rfl ⟨Grows.refl _, hI, fun d hd => by cases hd; exact Am⟩
end Go.Proofs.YtbpphlmakmeoaaaGreatDoor.Sy
namespace Go.Proofs.YtbpphlmakmeoaaaGreatDoor.Sy
open Go.RowKit
theorem pr (w : World) (a : ft) (pa : Option Addr) (n pc : Nat) : Calls Tryz.prog 314 #[.agg #[.int .i64 a.coef, .string ⟨a.pred.toArray⟩, .slice pa n pc, .int .i64 a.value]] w fun e w' => e = .returned (.bool (decide (a.pred = []))) ∧ Grows w w' := by
 have HB := ec (Grows.alloc w (.cells #[.int .i64 a.coef, .string ⟨a.pred.toArray⟩, .slice pa n pc, .int .i64 a.value] 192))
 by_cases h : a.pred = []
 · rw [h]
   rw [h] at HB
   go_enter Tryz.func314, Tryz.ntmps314
   go_wp2_with fail
   go_ret
   exact ⟨rfl, HB.out⟩
 · have hd : decide (a.pred = []) = false := decide_eq_false h
   rw [hd]
   go_enter Tryz.func314, Tryz.ntmps314
   go_wp2_with fail
   go_ret
   refine ⟨?_, HB.out⟩
   simp [h]
theorem vw (w : World) (a : ft) (pa : Option Addr) (n pc : Nat) : Calls Tryz.prog 283 #[.agg #[.int .i64 a.coef, .string ⟨a.pred.toArray⟩, .slice pa n pc, .int .i64 a.value]] w fun e w' => e = .returned (.bool (nl a)) ∧ Grows w w' := by
 have C := ec (pr (w.alloc (.cells #[.int .i64 a.coef, .string ⟨a.pred.toArray⟩, .slice pa n pc, .int .i64 a.value] 192)) a pa n pc)
 have HB := ec (Grows.alloc w (.cells #[.int .i64 a.coef, .string ⟨a.pred.toArray⟩, .slice pa n pc, .int .i64 a.value] 192))
 have HN := ec (heap_alloc_new w (.cells #[.int .i64 a.coef, .string ⟨a.pred.toArray⟩, .slice pa n pc, .int .i64 a.value] 192))
 go_enter Tryz.func283, Tryz.ntmps283
 go_wp2_with fail
 refine C.out.mono ?_
 rintro _ w1 ⟨rfl, hb⟩
 obtain ⟨z0, z1, z2, z3, z4⟩ := fy ((hb.block _ (eN HN.out)).trans HN.out)
 have G := ec (Grows.trans HB.out hb)
 clear hb C
 by_cases h : a.pred = []
 · have hd : decide (a.pred = []) = true := decide_eq_true h
   have HE : Hid (nl a = decide (a.value < 0)) := ec (if_pos h)
   simp only [hd]
   clear h hd
   go_wp2_with fail
   go_ret
   exact ⟨by rw [HE.out]; rfl, G.out⟩
 · have hd : decide (a.pred = []) = false := decide_eq_false h
   have HE : Hid (nl a = decide (a.coef < 0)) := ec (if_neg h)
   simp only [hd]
   clear h hd
   go_wp2_with fail
   go_ret
   exact ⟨by rw [HE.out]; rfl, G.out⟩
theorem sH {v : Int} (h : ic v) : IntKind.i64.wrap (-v) = lJ v := by
 rw [IntKind.wrap_i64]
 unfold lJ
 split
 · next e => subst e; decide
 · obtain ⟨h1, h2⟩ := h
   omega
theorem wc (w : World) (a : ft) (pa : Option Addr) (n pc : Nat) (hc : ic a.coef) (hv : ic a.value) : Calls Tryz.prog 284 #[.agg #[.int .i64 a.coef, .string ⟨a.pred.toArray⟩, .slice pa n pc, .int .i64 a.value]] w fun e w' => e = .returned (.agg #[.int .i64 (lJ a.coef), .string ⟨a.pred.toArray⟩, .slice pa n pc, .int .i64 (lJ a.value)]) ∧ Grows w w' := by
 have e1 := sH hc
 have e2 := sH hv
 clear hc hv
 go_enter Tryz.func284, Tryz.ntmps284
 go_wp2_with fail
 simp [bodyPost, results, Tryz.results284, go_sem]
 exact ((Below.refl _ w).alloc (Nat.le_refl _) _).alloc (by simp) _
theorem pT (w : World) (a : ft) (v : Value) (hv : kg Any w a v) (hfit : lu a) : Calls Tryz.prog 282 #[v] w (fp (gQ XP a) w) := by
 obtain ⟨av, rfl, hx⟩ := hv
 have HFit := ec hfit
 obtain ⟨pa, pc, rfl⟩ := ed hx
 have C := ec (pr (w.alloc (.cells #[.int .i64 a.coef, .string ⟨a.pred.toArray⟩, .slice pa a.args.length pc, .int .i64 a.value] 192)) a pa a.args.length pc)
 have HB := ec (Grows.alloc w (.cells #[.int .i64 a.coef, .string ⟨a.pred.toArray⟩, .slice pa a.args.length pc, .int .i64 a.value] 192))
 have HN := ec (heap_alloc_new w (.cells #[.int .i64 a.coef, .string ⟨a.pred.toArray⟩, .slice pa a.args.length pc, .int .i64 a.value] 192))
 have HX := ec hx
 clear hx hfit
 go_enter Tryz.func282, Tryz.ntmps282
 go_wp2_with fail
 refine C.out.mono ?_
 rintro _ w1 ⟨rfl, hb⟩
 obtain ⟨c0, c1, c2, c3, _⟩ := fy ((hb.block _ (eN HN.out)).trans HN.out)
 have Aa := ec (Grows.trans HB.out hb)
 have Am : Hid (Kd.holds (.strs a.args) w1 (.slice pa a.args.length pc)) := ec (Kd.keep (k := .strs a.args) Aa.out.keeps HX.out)
 clear hb C HB HN HX
 by_cases h : a.pred = []
 · have hd : decide (a.pred = []) = true := decide_eq_true h
   have HE : Hid (gQ XP a = XP.money a.value) := ec (if_pos h)
   have CA := ec (lk w1 a.value)
   simp only [hd]
   clear h hd
   go_wp2_with fail
   refine CA.out.mono ?_
   rintro _ w2 ⟨v, rfl, hv, hb⟩
   obtain ⟨k, q, rfl, hf, hc⟩ := hv
   have HF : Hid (fp (gQ XP a) w (.returned (.func (.func k) #[] q)) w2) := ec ⟨_, rfl, by rw [HE.out]; exact ⟨k, q, rfl, hf, hc⟩, Grows.trans Aa.out hb⟩
   clear hf hc hb CA
   go_wp2_with fail
   go_ret
   exact HF.out
 · have hd : decide (a.pred = []) = false := decide_eq_false h
   have HE : Hid (gQ XP a = ez [ey (!decide (a.coef = 1)) (ez [XP.int a.coef, some [42]]), some a.pred, iA a.args]) := ec (if_neg h)
   simp only [hd]
   clear h hd
   go_wp2_with fail
   rename_i K hK
   refine gE (B := [1]) rN Grows (nj w1) (Gk [.any, .val (.pointer (some ⟨w.heap.size, 0, none⟩)), .part (ez [ey (!decide (a.coef = 1)) (ez [XP.int (a.coef), some [42]]), some (a.pred), iA (a.args)]), .any, .any, .any, .any, .any, .val (.pointer (some ⟨w.heap.size, 0, none⟩)), .val (.int .i64 a.coef), .val (.bool (!decide (a.coef = 1))), .val (.pointer (some ⟨w.heap.size, 0, none⟩)), .val (.int .i64 a.coef), .part (XP.int (a.coef)), .strs ([[42]]), .part (some [42]), .parts [XP.int (a.coef), some [42]], .part (ez [XP.int (a.coef), some [42]]), .part (ey (!decide (a.coef = 1)) (ez [XP.int (a.coef), some [42]])), .val (.pointer (some ⟨w.heap.size, 1, none⟩)), .val (.string ⟨a.pred.toArray⟩), .part (some (a.pred)), .val (.pointer (some ⟨w.heap.size, 2, none⟩)), .strs (a.args), .part (iA (a.args)), .parts [ey (!decide (a.coef = 1)) (ez [XP.int (a.coef), some [42]]), some (a.pred), iA (a.args)], .part (ez [ey (!decide (a.coef = 1)) (ez [XP.int (a.coef), some [42]]), some (a.pred), iA (a.args)])]) 1000 (by kernel_rfl) (by kernel_rfl) (eZ (by kernel_rfl)) (jh (by kernel_rfl)) (fun s w w' v h => Gk.keep s w w' v h) (Grows.drew _) ?hb (ia ⟨?_, ?_, ?_, ?_, ?_, ?_, ?_, ?_, ?_, ?_, ?_, ?_, ?_, ?_, ?_, ?_, ?_, ?_, ?_, ?_, trivial⟩) (fun _ _ _ _ h => h.elim) ?hend
   case hb =>
    intro s hs
    simp only [List.mem_cons, List.not_mem_nil, or_false] at hs
    rcases hs with rfl <;> rfl
   case hend =>
    rintro ⟨tm, df⟩ w' _ Ae hI _ Ah
    simp only at Ae
    subst Ae
    have hv := Ah 19 2 rfl
    refine hK _ _ (j0 (t := 2) Tryz.results282 rfl ⟨_, rfl, ?_, Grows.trans Aa.out hI⟩)
    rw [HE.out]
    exact hv
   · intro ρ W b hc hf _ hI hg
     have g1 : ρ (.tmp 1) = .pointer (some ⟨w.heap.size, 0, none⟩) := hg 1 (by decide)
     refine ef (v := .pointer (some ⟨w.heap.size, 0, none⟩)) (w' := W) ?_ ⟨Grows.refl _, hI, fun d hd => by cases hd; exact rfl⟩
     clear hg hc hf
     go_simp
   · intro ρ W b hc hf _ hI hg
     have g8 : ρ (.tmp 8) = .pointer (some ⟨w.heap.size, 0, none⟩) := hg 8 (by decide)
     have d0 := Grows.cell hI c0
     refine ef (v := .int .i64 a.coef) (w' := W) ?_ ⟨Grows.refl _, hI, fun d hd => by cases hd; exact rfl⟩
     clear hg hc hf
     go_simp
   · intro ρ W b hc hf _ hI hg
     have g9 : ρ (.tmp 9) = .int .i64 a.coef := hg 9 (by decide)
     have k0 := hc (.int .i64 1)
     refine ef (v := .bool (!decide (a.coef = 1))) (w' := W) ?_ ⟨Grows.refl _, hI, fun d hd => by cases hd; exact rfl⟩
     clear hg hc hf
     go_simp
     all_goals first | rfl | (simp [bne]; done)
   · intro ρ W b hc hf _ hI hg
     have g1 : ρ (.tmp 1) = .pointer (some ⟨w.heap.size, 0, none⟩) := hg 1 (by decide)
     refine ef (v := .pointer (some ⟨w.heap.size, 0, none⟩)) (w' := W) ?_ ⟨Grows.refl _, hI, fun d hd => by cases hd; exact rfl⟩
     clear hg hc hf
     go_simp
   · intro ρ W b hc hf _ hI hg
     have Ar : ρ (.tmp 11) = .pointer (some ⟨w.heap.size, 0, none⟩) := hg 11 (by decide)
     have d0 := Grows.cell hI c0
     refine ef (v := .int .i64 a.coef) (w' := W) ?_ ⟨Grows.refl _, hI, fun d hd => by cases hd; exact rfl⟩
     clear hg hc hf
     go_simp
   · intro ρ W b hc hf _ hI hg
     have As : ρ (.tmp 12) = .int .i64 a.coef := hg 12 (by decide)
     have k0 := hf 146
     refine es (f := 146) (args := #[.int .i64 (a.coef)]) (w' := W) ?_ (nY W (a.coef) HFit.out.coef.1 HFit.out.coef.2) ?_
     · clear hg hc hf
       go_simp
     · rintro e W' ⟨v, rfl, hv, hb⟩
       exact ⟨v, rfl, hb, Grows.trans hI hb, fun d hd => by cases hd; exact hv⟩
   · intro ρ W b hc hf _ hI hg
     have k0 := hc (.string ⟨#[42]⟩)
     refine ef (v := .slice (some ⟨W.heap.size, 0, none⟩) 1 1) (w' := W.alloc (.cells #[.string ⟨#[42]⟩] 9)) ?_ ⟨Grows.alloc _ _, Grows.trans hI (Grows.alloc _ _), fun d hd => by cases hd; exact fh W [[42]] (by unfold maxLen; simp)⟩
     clear hg hc hf
     go_simp
   · intro ρ W b hc hf _ hI hg
     have Ai : Strs Any W ([[42]]) (ρ (.tmp 14)) := hg 14 (by decide)
     have k0 := hf 73
     refine es (f := 73) (args := #[ρ (.tmp 14)]) (w' := W) ?_ (fG W [42] _ Ai (by decide)) ?_
     · clear hg hc hf
       go_simp
     · rintro e W' ⟨v, rfl, hv, hb⟩
       exact ⟨v, rfl, hb, Grows.trans hI hb, fun d hd => by cases hd; exact hv⟩
   · intro ρ W b hc hf _ hI hg
     have Ad : Tells (XP.int (a.coef)) W (ρ (.tmp 13)) := hg 13 (by decide)
     have Af : Tells (some [42]) W (ρ (.tmp 15)) := hg 15 (by decide)
     have hP := fF W [XP.int (a.coef), some [42]] [ρ (.tmp 13), ρ (.tmp 15)] rfl (by unfold maxLen; simp) ⟨Ad, Af, trivial⟩
     obtain ⟨AD, Ap, Aq, -, -⟩ := Ad
     obtain ⟨AB, AA, AJ, -, -⟩ := Af
     refine ef (v := .slice (some ⟨W.heap.size, 0, none⟩) 2 2) (w' := W.alloc (.cells #[ρ (.tmp 13), ρ (.tmp 15)] 86)) ?_ ⟨Grows.alloc _ _, Grows.trans hI (Grows.alloc _ _), fun d hd => by cases hd; exact hP⟩
     clear hg hc hf hP
     go_simp
   · intro ρ W b hc hf _ hI hg
     have Ao : Parts W [XP.int (a.coef), some [42]] (ρ (.tmp 16)) := hg 16 (by decide)
     have k0 := hf 70
     refine es (f := 70) (args := #[ρ (.tmp 16)]) (w' := W) ?_ (hM W [XP.int (a.coef), some [42]] _ Ao (by simp)) ?_
     · clear hg hc hf
       go_simp
     · rintro e W' ⟨v, rfl, hv, hb⟩
       exact ⟨v, rfl, hb, Grows.trans hI hb, fun d hd => by cases hd; exact hv⟩
   · intro ρ W b hc hf _ hI hg
     have Az : ρ (.tmp 10) = .bool (!decide (a.coef = 1)) := hg 10 (by decide)
     have Ak : Tells (ez [XP.int (a.coef), some [42]]) W (ρ (.tmp 17)) := hg 17 (by decide)
     have k0 := hf 71
     refine es (f := 71) (args := #[.bool (!decide (a.coef = 1)), ρ (.tmp 17)]) (w' := W) ?_ (iw W (!decide (a.coef = 1)) (ez [XP.int (a.coef), some [42]]) _ Ak) ?_
     · clear hg hc hf
       go_simp
     · rintro e W' ⟨v, rfl, hv, hb⟩
       exact ⟨v, rfl, hb, Grows.trans hI hb, fun d hd => by cases hd; exact hv⟩
   · intro ρ W b hc hf _ hI hg
     have g1 : ρ (.tmp 1) = .pointer (some ⟨w.heap.size, 0, none⟩) := hg 1 (by decide)
     refine ef (v := .pointer (some ⟨w.heap.size, 1, none⟩)) (w' := W) ?_ ⟨Grows.refl _, hI, fun d hd => by cases hd; exact rfl⟩
     clear hg hc hf
     go_simp
   · intro ρ W b hc hf _ hI hg
     have AG : ρ (.tmp 19) = .pointer (some ⟨w.heap.size, 1, none⟩) := hg 19 (by decide)
     have d0 := Grows.cell hI c1
     refine ef (v := .string ⟨a.pred.toArray⟩) (w' := W) ?_ ⟨Grows.refl _, hI, fun d hd => by cases hd; exact rfl⟩
     clear hg hc hf
     go_simp
   · intro ρ W b hc hf _ hI hg
     have At : ρ (.tmp 20) = .string ⟨a.pred.toArray⟩ := hg 20 (by decide)
     have k0 := hf 139
     refine es (f := 139) (args := #[.string ⟨(a.pred).toArray⟩]) (w' := W) ?_ (nS W (a.pred) HFit.out.pred) ?_
     · clear hg hc hf
       go_simp
     · rintro e W' ⟨v, rfl, hv, hb⟩
       exact ⟨v, rfl, hb, Grows.trans hI hb, fun d hd => by cases hd; exact hv⟩
   · intro ρ W b hc hf _ hI hg
     have g1 : ρ (.tmp 1) = .pointer (some ⟨w.heap.size, 0, none⟩) := hg 1 (by decide)
     refine ef (v := .pointer (some ⟨w.heap.size, 2, none⟩)) (w' := W) ?_ ⟨Grows.refl _, hI, fun d hd => by cases hd; exact rfl⟩
     clear hg hc hf
     go_simp
   · intro ρ W b hc hf _ hI hg
     have Aw : ρ (.tmp 22) = .pointer (some ⟨w.heap.size, 2, none⟩) := hg 22 (by decide)
     have d0 := Grows.cell hI c2
     refine ef (v := .slice pa a.args.length pc) (w' := W) ?_ ⟨Grows.refl _, hI, fun d hd => by cases hd; exact (Kd.keep (k := .strs (a.args)) (Grows.keeps hI) Am.out)⟩
     clear hg hc hf
     go_simp
   · intro ρ W b hc hf _ hI hg
     have Aj : Strs Any W (a.args) (ρ (.tmp 23)) := hg 23 (by decide)
     have k0 := hf 140
     refine es (f := 140) (args := #[ρ (.tmp 23)]) (w' := W) ?_ (kY W (a.args) _ Aj HFit.out.args) ?_
     · clear hg hc hf
       go_simp
     · rintro e W' ⟨v, rfl, hv, hb⟩
       exact ⟨v, rfl, hb, Grows.trans hI hb, fun d hd => by cases hd; exact hv⟩
   · intro ρ W b hc hf _ hI hg
     have Ac : Tells (ey (!decide (a.coef = 1)) (ez [XP.int (a.coef), some [42]])) W (ρ (.tmp 18)) := hg 18 (by decide)
     have Ab : Tells (some (a.pred)) W (ρ (.tmp 21)) := hg 21 (by decide)
     have Ag : Tells (iA (a.args)) W (ρ (.tmp 24)) := hg 24 (by decide)
     have hP := fF W [ey (!decide (a.coef = 1)) (ez [XP.int (a.coef), some [42]]), some (a.pred), iA (a.args)] [ρ (.tmp 18), ρ (.tmp 21), ρ (.tmp 24)] rfl (by unfold maxLen; simp) ⟨Ac, Ab, Ag, trivial⟩
     obtain ⟨Ax, AH, Ay, -, -⟩ := Ac
     obtain ⟨AE, AC, AI, -, -⟩ := Ab
     obtain ⟨Av, Au, AF, -, -⟩ := Ag
     refine ef (v := .slice (some ⟨W.heap.size, 0, none⟩) 3 3) (w' := W.alloc (.cells #[ρ (.tmp 18), ρ (.tmp 21), ρ (.tmp 24)] 86)) ?_ ⟨Grows.alloc _ _, Grows.trans hI (Grows.alloc _ _), fun d hd => by cases hd; exact hP⟩
     clear hg hc hf hP
     go_simp
   · intro ρ W b hc hf _ hI hg
     have Al : Parts W [ey (!decide (a.coef = 1)) (ez [XP.int (a.coef), some [42]]), some (a.pred), iA (a.args)] (ρ (.tmp 25)) := hg 25 (by decide)
     have k0 := hf 70
     refine es (f := 70) (args := #[ρ (.tmp 25)]) (w' := W) ?_ (hM W [ey (!decide (a.coef = 1)) (ez [XP.int (a.coef), some [42]]), some (a.pred), iA (a.args)] _ Al (by simp)) ?_
     · clear hg hc hf
       go_simp
     · rintro e W' ⟨v, rfl, hv, hb⟩
       exact ⟨v, rfl, hb, Grows.trans hI hb, fun d hd => by cases hd; exact hv⟩
   · intro ρ W b hc hf _ hI hg
     have An : Tells (ez [ey (!decide (a.coef = 1)) (ez [XP.int (a.coef), some [42]]), some (a.pred), iA (a.args)]) W (ρ (.tmp 26)) := hg 26 (by decide)
     exact ef (v := ρ (.tmp 26)) (w' := W) rfl ⟨Grows.refl _, hI, fun d hd => by cases hd; exact An⟩
end Go.Proofs.YtbpphlmakmeoaaaGreatDoor.Sy
namespace Go.Proofs.YtbpphlmakmeoaaaGreatDoor.Sy
open Go.RowKit
theorem zx {tm : Array Value} (h : tm.size = 39) : ∃ x0 x1 x2 x3 x4 x5 x6 x7 x8 x9 x10 x11 x12 x13 x14 x15 x16 x17 x18 x19 x20 x21 x22 x23 x24 x25 x26 x27 x28 x29 x30 x31 x32 x33 x34 x35 x36 x37 x38, tm = #[x0, x1, x2, x3, x4, x5, x6, x7, x8, x9, x10, x11, x12, x13, x14, x15, x16, x17, x18, x19, x20, x21, x22, x23, x24, x25, x26, x27, x28, x29, x30, x31, x32, x33, x34, x35, x36, x37, x38] := by
 obtain ⟨l0⟩ := tm
 have h0 : l0.length = 39 := h
 clear h
 obtain ⟨x0, l1, rfl, h1⟩ := eC h0
 obtain ⟨x1, l2, rfl, h2⟩ := eC h1
 obtain ⟨x2, l3, rfl, h3⟩ := eC h2
 obtain ⟨x3, l4, rfl, h4⟩ := eC h3
 obtain ⟨x4, l5, rfl, h5⟩ := eC h4
 obtain ⟨x5, l6, rfl, h6⟩ := eC h5
 obtain ⟨x6, l7, rfl, h7⟩ := eC h6
 obtain ⟨x7, l8, rfl, h8⟩ := eC h7
 obtain ⟨x8, l9, rfl, h9⟩ := eC h8
 obtain ⟨x9, Ba, rfl, Ar⟩ := eC h9
 obtain ⟨x10, AM, rfl, Ab⟩ := eC Ar
 obtain ⟨x11, AW, rfl, Aj⟩ := eC Ab
 obtain ⟨x12, AU, rfl, Ag⟩ := eC Aj
 obtain ⟨x13, AG, rfl, Ax⟩ := eC Ag
 obtain ⟨x14, Bf, rfl, AD⟩ := eC Ax
 obtain ⟨x15, AN, rfl, Aa⟩ := eC AD
 obtain ⟨x16, AK, rfl, Ap⟩ := eC Aa
 obtain ⟨x17, Be, rfl, Ah⟩ := eC Ap
 obtain ⟨x18, Bc, rfl, Am⟩ := eC Ah
 obtain ⟨x19, Bd, rfl, An⟩ := eC Am
 obtain ⟨x20, AR, rfl, Ay⟩ := eC An
 obtain ⟨x21, AH, rfl, AB⟩ := eC Ay
 obtain ⟨x22, AT, rfl, Ae⟩ := eC AB
 obtain ⟨x23, AI, rfl, Ai⟩ := eC Ae
 obtain ⟨x24, AV, rfl, Ao⟩ := eC Ai
 obtain ⟨x25, AL, rfl, AE⟩ := eC Ao
 obtain ⟨x26, AY, rfl, As⟩ := eC AE
 obtain ⟨x27, Bg, rfl, Ad⟩ := eC As
 obtain ⟨x28, AX, rfl, Aq⟩ := eC Ad
 obtain ⟨x29, AP, rfl, Az⟩ := eC Aq
 obtain ⟨x30, AZ, rfl, AC⟩ := eC Az
 obtain ⟨x31, Bh, rfl, AA⟩ := eC AC
 obtain ⟨x32, AS, rfl, Au⟩ := eC AA
 obtain ⟨x33, AQ, rfl, Ak⟩ := eC Au
 obtain ⟨x34, Bb, rfl, Av⟩ := eC Ak
 obtain ⟨x35, AJ, rfl, Aw⟩ := eC Av
 obtain ⟨x36, AO, rfl, Ac⟩ := eC Aw
 obtain ⟨x37, AF, rfl, Af⟩ := eC Ac
 obtain ⟨x38, At, rfl, Al⟩ := eC Af
 have e : At = [] := List.length_eq_zero_iff.1 Al
 subst e
 exact ⟨x0, x1, x2, x3, x4, x5, x6, x7, x8, x9, x10, x11, x12, x13, x14, x15, x16, x17, x18, x19, x20, x21, x22, x23, x24, x25, x26, x27, x28, x29, x30, x31, x32, x33, x34, x35, x36, x37, x38, rfl⟩
theorem mG (a b : Told) : ez [a, b] = Told.app a b := by show Told.app a (Told.app b (some [])) = _; rw [j1]
theorem uD {v : Int} (h : ic v) : ic (lJ v) := by
 unfold lJ
 obtain ⟨h1, h2⟩ := h
 split
 · exact ⟨by omega, by omega⟩
 · exact ⟨by omega, by omega⟩
theorem yL {t : ft} (h : lu t) : lu (jK t) := ⟨uD h.coef, h.pred, h.args, uD h.value⟩
theorem vB (R : Nat) (told : ee) (w : World) (h : Wr R told w) (l : List ft) (sv : Value) (b1 : Nat) (h1 : w.heap[b1]? = some (.cells #[sv] 50 (0, 0))) (hp : Terms Any w l sv) (hl : lD l) :
    Calls Tryz.prog 281 #[.pointer (some ⟨R, 0, none⟩), .pointer (some ⟨b1, 0, none⟩)] w (EndsW R told (gF XP l) w) := by
 have c1 := fv h1
 have HP := ec hp
 have HW := ec h
 have HL := ec hl
 have Bl := hl.len
 obtain ⟨Bp, Bf, rfl⟩ := ed hp
 clear h1 hp h hl
 go_enter Tryz.func281, Tryz.ntmps281
 go_wp2_with fail
 go_loopw [7] (fun x wr => ∃ (k : Nat) (Ab : ee), k ≤ l.length ∧ x = .int .i64 k ∧ Hid (Wr R (told ++ Ab) wr) ∧ Hid (Kw R w wr) ∧ Hid (gF XP l = Told.app (some Ab) (iI XP (decide (k = 0)) (l.drop k)))) (fun x _ => l.length - (intOf x).toNat)
 case atStart => exact ⟨0, [], by omega, rfl, ec (by simpa using HW.out), ec (Kw.refl R w), ec (by rw [iG]; rfl)⟩
 case round =>
  obtain ⟨k, Ab, hk, rfl, HR, HK, HO⟩ := hrel
  by_cases hlt : k < l.length
  · obtain ⟨t, ht⟩ : ∃ t, l[k]? = some t := ⟨l[k], by simp [hlt]⟩
    have Ai := ec (HL.out.all t (List.mem_of_getElem? ht))
    have HD : Hid (l.drop k = t :: l.drop (k + 1)) := ec (by rw [List.drop_eq_getElem_cons hlt, (List.getElem?_eq_some_iff.1 ht).2])
    obtain ⟨ga, xa, ya, e1, _, h1, h2⟩ := Rows.at (Terms.keep (T := ei) HP.out (eM HK.out.keeps) (by decide) (by decide)) ht
    simp only [Value.slice.injEq] at e1
    obtain ⟨rfl, _, rfl⟩ := e1
    obtain ⟨av, rfl, Ao⟩ := h1
    obtain ⟨pa, pc, rfl⟩ := ed Ao
    have a0 : wr.cell? ⟨ga, k * 4, none⟩ = some (.int .i64 t.coef) := by have := h2 0 _ rfl; simpa using this
    have a1 : wr.cell? ⟨ga, k * 4 + 1, none⟩ = some (.string ⟨t.pred.toArray⟩) := by have := h2 1 _ rfl; simpa using this
    have a2 : wr.cell? ⟨ga, k * 4 + 2, none⟩ = some (.slice pa t.args.length pc) := by have := h2 2 _ rfl; simpa using this
    have a3 : wr.cell? ⟨ga, k * 4 + 3, none⟩ = some (.int .i64 t.value) := by have := h2 3 _ rfl; simpa using this
    have Aj : Grows wr (wr.alloc (.cells #[.int .i64 t.coef, .string ⟨t.pred.toArray⟩, .slice pa t.args.length pc, .int .i64 t.value] 192)) := Grows.alloc _ _
    have HBq := ec Aj
    have HA := ec (Strs.keep (T := ei) Ao (eM Aj.keeps) (by decide))
    have An := ec (heap_alloc_new wr (.cells #[.int .i64 t.coef, .string ⟨t.pred.toArray⟩, .slice pa t.args.length pc, .int .i64 t.value] 192))
    have HWq := ec (HR.out.below Aj)
    have HKq := ec (HK.out.trans (Kw.of_below Aj (Nat.le_of_lt HR.out.lt)))
    clear h2 ht Ao Aj
    by_cases hk0 : k = 0
    · subst hk0
      have CT := ec (pT _ t _ ⟨_, rfl, HA.out⟩ Ai.out)
      go_wp2_with fail
      refine CT.out.mono ?_
      rintro _ w2 ⟨v, rfl, hv, hb⟩
      have C := ec (gW R (told ++ Ab) _ ((HWq.out.below hb).below (Grows.alloc _ _)) [gQ XP t] _ (ip w2 _ v hv) (by simp))
      rw [iJ] at C
      obtain ⟨kk, qq, rfl, _, _⟩ := hv
      have Ap := ec (HKq.out.trans (Kw.of_below (Grows.trans hb (Grows.alloc w2 (.cells #[.func (.func kk) #[] qq] 86))) (Nat.le_of_lt HWq.out.lt)))
      have Af : Hid (gF XP l = Told.app (some Ab) (Told.app (gQ XP t) (iI XP false (l.drop (0 + 1))))) := ec (by rw [HO.out, HD.out]; rfl)
      clear hb CT
      go_wp2_with fail
      refine C.out.mono ?_
      intro e w3 he
      rcases he.split with ⟨bs, hm, rfl, Ae, Ac⟩ | ⟨hm, rfl, Ac⟩
      · have Am := ec Ae
        have Al := ec (Ap.out.trans Ac)
        have Ak : Hid (gF XP l = Told.app (some (Ab ++ bs)) (iI XP (decide (0 + 1 = 0)) (l.drop (0 + 1)))) := ec (by
         rw [Af.out, hm, ← gA]
         rfl)
        clear he Ae Ac hm C HR HK HO Ap
        go_wp2_with fail
        go_roundw
        case rel => exact ⟨0 + 1, Ab ++ bs, by omega, by go_num, by rw [← List.append_assoc]; exact Am, Al, Ak⟩
        case measure => simp [intOf]; omega
      · exact ⟨rfl, EndsW.none (by rw [Af.out, hm]; rfl) (Ap.out.trans Ac)⟩
    · have CB := ec (vw (wr.alloc (.cells #[.int .i64 t.coef, .string ⟨t.pred.toArray⟩, .slice pa t.args.length pc, .int .i64 t.value] 192)) t pa t.args.length pc)
      have Ay := ec hk0
      go_wp2_with fail
      refine CB.out.mono ?_
      rintro _ w2 ⟨rfl, hb⟩
      have An := eK hb An
      have HA := ec (Strs.keep (T := ei) HA.out (eM hb.keeps) (by decide))
      have HKq := ec (HKq.out.trans (Kw.of_below hb (Nat.le_of_lt HWq.out.lt)))
      have HWq := ec (HWq.out.below hb)
      clear hb CB
      cases hbl : nl t with
      | true =>
       have Af : Hid (iI XP (decide (k = 0)) (t :: l.drop (k + 1)) = Told.app (Told.app (some [32, 45, 32]) (gQ XP (jK t))) (iI XP false (l.drop (k + 1)))) := ec (by
        rw [decide_eq_false Ay.out]
        show Told.app (nc XP t) _ = _
        unfold nc
        rw [if_pos hbl])
       clear hbl
       go_wp2_with fail
       rename_i K hK hkk
       refine gE (B := [0, 4]) (mq R (ez [some [32, 45, 32], gQ XP (jK t)]) w2) Keeps (RoundI R (told ++ Ab) (ez [some [32, 45, 32], gQ XP (jK t)]) w2) (Gk [.val (.pointer (some ⟨R, 0, none⟩)), .any, .any, .any, .val (.pointer (some ⟨wr.heap.size, 0, none⟩)), .any, .any, .any, .any, .any, .any, .any, .any, .any, .any, .any, .any, .any, .any, .any, .any, .any, .any, .any, .any, .any, .any, .any, .any, .any, .val (.pointer (some ⟨R, 0, none⟩)), .strs [[32, 45, 32]], .part (some [32, 45, 32]), .term t, .term (jK t), .part (gQ XP (jK t)), .parts [some [32, 45, 32], gQ XP (jK t)], .any, .any]) 7 (by kernel_rfl) (by kernel_rfl) (eZ (by kernel_rfl)) (jh (by kernel_rfl)) (fun s w w' v h hg => Kd.keep h hg) ⟨Grows.drew w2, HWq.out⟩ ?hb (ia ⟨?_, ?_, ?_, ?_, ?_, ?_, ?_, ?_, trivial⟩) ?hE ?hend
       case hb =>
        intro s hs
        simp only [List.mem_cons, List.not_mem_nil, or_false] at hs
        rcases hs with rfl | rfl <;> rfl
       case hE =>
        rintro c a' w' Ad ⟨rfl, hm, hk'⟩
        refine ⟨Ad, EndsW.none ?_ (HKq.out.trans hk')⟩
        rw [HO.out, HD.out, Af.out]
        rw [mG] at hm
        rw [hm]
        rfl
       case hend =>
        rintro ⟨tm, df⟩ w' Ag Ad ⟨bs, hm, Ae, Ac⟩ Aa _
        simp only at Ad Ag
        subst Ad
        obtain ⟨x0, x1, x2, x3, x4, x5, x6, x7, x8, x9, AM, AP, Ba, AS, AQ, AG, AE, AR, AV, AC, AF, AA, Bb, AI, AT, Az, AX, AH, AY, AO, AN, AZ, AU, AB, AD, AJ, AK, AL, AW, rfl⟩ := zx Ag
        have e0 := Aa 0 (eZ (B := [0]) (by kernel_rfl) 0 (by simp))
        have e1 := Aa 1 (eZ (B := [1]) (by kernel_rfl) 1 (by simp))
        have e2 := Aa 2 (eZ (B := [2]) (by kernel_rfl) 2 (by simp))
        have e5 := Aa 5 (eZ (B := [5]) (by kernel_rfl) 5 (by simp))
        have e6 := Aa 6 (eZ (B := [6]) (by kernel_rfl) 6 (by simp))
        have e7 := Aa 7 (eZ (B := [7]) (by kernel_rfl) 7 (by simp))
        simp at e0 e1 e2 e5 e6 e7
        subst e0 e1 e2 e5 e6 e7
        have Am := ec Ae
        have Al := ec (HKq.out.trans Ac)
        have Ak : Hid (gF XP l = Told.app (some (Ab ++ bs)) (iI XP (decide (k + 1 = 0)) (l.drop (k + 1)))) := ec (by
         rw [HO.out, HD.out, Af.out]
         rw [mG] at hm
         rw [hm, ← gA]
         simp [Told.app])
        clear Ag hm Ae Ac Aa HR HK HO
        refine hK _ _ ?_
        go_wp2_with fail
        go_roundw
        case rel => exact ⟨k + 1, Ab ++ bs, by omega, by go_num, by rw [← List.append_assoc]; exact Am, Al, Ak⟩
        case measure => simp [intOf]; omega
       · exact eS (by decide) fun ρ W hc hf hI hg => ef (v := ρ (.tmp 0)) (w' := W) rfl ⟨Grows.refl _, fun d hd => by cases hd; exact (show ρ (.tmp 0) = _ from hg 0 (by decide))⟩
       · refine eS (by decide) fun ρ W hc hf hI hg => ?_
         have k0 := hc (.string ⟨#[32, 45, 32]⟩)
         refine ef (v := .slice (some ⟨W.heap.size, 0, none⟩) 1 1) (w' := W.alloc (.cells #[.string ⟨#[32, 45, 32]⟩] 9)) ?_ ⟨Grows.alloc _ _, fun d hd => by cases hd; exact fh W [[32, 45, 32]] (by unfold maxLen; simp)⟩
         clear hg hc hf
         go_simp
       · refine eS (by decide) fun ρ W hc hf hI hg => ?_
         have Au : Strs Any W [[32, 45, 32]] (ρ (.tmp 31)) := hg 31 (by decide)
         have k0 := hf 73
         refine es (f := 73) (args := #[ρ (.tmp 31)]) (w' := W) ?_ (fG W [32, 45, 32] _ Au (by decide)) ?_
         · clear hg hc hf Au
           go_simp
         · rintro e W' ⟨v, rfl, hv, hb⟩
           exact ⟨v, rfl, hb, fun d hd => by cases hd; exact hv⟩
       · refine eS (by decide) fun ρ W hc hf hI hg => ?_
         have g4 : ρ (.tmp 4) = .pointer (some ⟨wr.heap.size, 0, none⟩) := hg 4 (by decide)
         obtain ⟨d0, d1, d2, d3, _⟩ := fy (hI _ _ _ _ An.out (by decide) (by decide))
         have hV : kg Any W t (.agg #[.int .i64 t.coef, .string ⟨t.pred.toArray⟩, .slice pa t.args.length pc, .int .i64 t.value]) := ⟨_, rfl, Strs.keep (T := ei) HA.out (eM hI) (by decide)⟩
         refine ef (v := .agg #[.int .i64 t.coef, .string ⟨t.pred.toArray⟩, .slice pa t.args.length pc, .int .i64 t.value]) (w' := W) ?_ ⟨Grows.refl _, fun d hd => by cases hd; exact hV⟩
         clear hg hc hf hV
         go_simp
       · refine eS (by decide) fun ρ W hc hf hI hg => ?_
         obtain ⟨bv, e, Ah⟩ : kg Any W t (ρ (.tmp 33)) := hg 33 (by decide)
         obtain ⟨ba, bc, rfl⟩ := ed Ah
         have k0 := hf 284
         refine es (f := 284) (args := #[.agg #[.int .i64 t.coef, .string ⟨t.pred.toArray⟩, .slice ba t.args.length bc, .int .i64 t.value]]) (w' := W) ?_ (wc W t ba t.args.length bc Ai.out.coef Ai.out.value) ?_
         · clear hg hc hf Ah
           go_simp
         · rintro e' W' ⟨rfl, hb⟩
           exact ⟨_, rfl, hb, fun d hd => by cases hd; exact ⟨_, rfl, Strs.keep (T := ei) Ah (eM hb.keeps) (by decide)⟩⟩
       · refine eS (by decide) fun ρ W hc hf hI hg => ?_
         have Aq : kg Any W (jK t) (ρ (.tmp 34)) := hg 34 (by decide)
         have k0 := hf 282
         refine es (f := 282) (args := #[ρ (.tmp 34)]) (w' := W) ?_ (pT W (jK t) _ Aq (yL Ai.out)) ?_
         · obtain ⟨bv, e, Ah⟩ := Aq
           clear hg hc hf Ah
           go_simp
         · rintro e W' ⟨v, rfl, hv, hb⟩
           exact ⟨v, rfl, hb, fun d hd => by cases hd; exact hv⟩
       · refine eS (by decide) fun ρ W hc hf hI hg => ?_
         have At : Tells (some [32, 45, 32]) W (ρ (.tmp 32)) := hg 32 (by decide)
         have Ax : Tells (gQ XP (jK t)) W (ρ (.tmp 35)) := hg 35 (by decide)
         have hP := fF W [some [32, 45, 32], gQ XP (jK t)] [ρ (.tmp 32), ρ (.tmp 35)] rfl (by unfold maxLen; simp) ⟨At, Ax, trivial⟩
         obtain ⟨Bq, Bg, Bd, -, -⟩ := At
         obtain ⟨Bo, Bc, Bh, -, -⟩ := Ax
         refine ef (v := .slice (some ⟨W.heap.size, 0, none⟩) 2 2) (w' := W.alloc (.cells #[ρ (.tmp 32), ρ (.tmp 35)] 86)) ?_ ⟨Grows.alloc _ _, fun d hd => by cases hd; exact hP⟩
         clear hg hc hf hP
         go_simp
       · refine kV (s1 := 30) (s2 := 36) (ms := [some [32, 45, 32], gQ XP (jK t)]) (by decide) (by decide) rfl (by simp) (fun W v h => h) (fun W v h => h) (fun d hd W v => by cases hd; trivial) ?_
         intro ρ W pa n pc hf g1 g2
         have k0 := hf 68
         clear hf
         go_simp
      | false =>
       have Af : Hid (iI XP (decide (k = 0)) (t :: l.drop (k + 1)) = Told.app (Told.app (some [32, 43, 32]) (gQ XP t)) (iI XP false (l.drop (k + 1)))) := ec (by
        rw [decide_eq_false Ay.out]
        show Told.app (nc XP t) _ = _
        unfold nc
        rw [if_neg (by rw [hbl]; decide)])
       clear hbl
       go_wp2_with fail
       rename_i K hK hkk
       refine gE (B := [0, 4]) (mq R (ez [some [32, 43, 32], gQ XP t]) w2) Keeps (RoundI R (told ++ Ab) (ez [some [32, 43, 32], gQ XP t]) w2) (Gk [.val (.pointer (some ⟨R, 0, none⟩)), .any, .any, .any, .val (.pointer (some ⟨wr.heap.size, 0, none⟩)), .any, .any, .any, .any, .any, .any, .any, .val (.pointer (some ⟨R, 0, none⟩)), .strs [[32, 43, 32]], .part (some [32, 43, 32]), .term t, .part (gQ XP t), .parts [some [32, 43, 32], gQ XP t], .any, .any, .any, .any, .any, .any, .any, .any, .any, .any, .any, .any, .any, .any, .any, .any, .any, .any, .any, .any, .any]) 6 (by kernel_rfl) (by kernel_rfl) (eZ (by kernel_rfl)) (jh (by kernel_rfl)) (fun s w w' v h hg => Kd.keep h hg) ⟨Grows.drew w2, HWq.out⟩ ?hb (ia ⟨?_, ?_, ?_, ?_, ?_, ?_, ?_, trivial⟩) ?hE ?hend
       case hb =>
        intro s hs
        simp only [List.mem_cons, List.not_mem_nil, or_false] at hs
        rcases hs with rfl | rfl <;> rfl
       case hE =>
        rintro c a' w' Ad ⟨rfl, hm, hk'⟩
        refine ⟨Ad, EndsW.none ?_ (HKq.out.trans hk')⟩
        rw [HO.out, HD.out, Af.out]
        rw [mG] at hm
        rw [hm]
        rfl
       case hend =>
        rintro ⟨tm, df⟩ w' Ag Ad ⟨bs, hm, Ae, Ac⟩ Aa _
        simp only at Ad Ag
        subst Ad
        obtain ⟨x0, x1, x2, x3, x4, x5, x6, x7, x8, x9, AM, AP, Ba, AS, AQ, AG, AE, AR, AV, AC, AF, AA, Bb, AI, AT, Az, AX, AH, AY, AO, AN, AZ, AU, AB, AD, AJ, AK, AL, AW, rfl⟩ := zx Ag
        have e0 := Aa 0 (eZ (B := [0]) (by kernel_rfl) 0 (by simp))
        have e1 := Aa 1 (eZ (B := [1]) (by kernel_rfl) 1 (by simp))
        have e2 := Aa 2 (eZ (B := [2]) (by kernel_rfl) 2 (by simp))
        have e5 := Aa 5 (eZ (B := [5]) (by kernel_rfl) 5 (by simp))
        have e6 := Aa 6 (eZ (B := [6]) (by kernel_rfl) 6 (by simp))
        have e7 := Aa 7 (eZ (B := [7]) (by kernel_rfl) 7 (by simp))
        simp at e0 e1 e2 e5 e6 e7
        subst e0 e1 e2 e5 e6 e7
        have Am := ec Ae
        have Al := ec (HKq.out.trans Ac)
        have Ak : Hid (gF XP l = Told.app (some (Ab ++ bs)) (iI XP (decide (k + 1 = 0)) (l.drop (k + 1)))) := ec (by
         rw [HO.out, HD.out, Af.out]
         rw [mG] at hm
         rw [hm, ← gA]
         simp [Told.app])
        clear Ag hm Ae Ac Aa HR HK HO
        refine hK _ _ ?_
        go_wp2_with fail
        go_roundw
        case rel => exact ⟨k + 1, Ab ++ bs, by omega, by go_num, by rw [← List.append_assoc]; exact Am, Al, Ak⟩
        case measure => simp [intOf]; omega
       · exact eS (by decide) fun ρ W hc hf hI hg => ef (v := ρ (.tmp 0)) (w' := W) rfl ⟨Grows.refl _, fun d hd => by cases hd; exact (show ρ (.tmp 0) = _ from hg 0 (by decide))⟩
       · refine eS (by decide) fun ρ W hc hf hI hg => ?_
         have k0 := hc (.string ⟨#[32, 43, 32]⟩)
         refine ef (v := .slice (some ⟨W.heap.size, 0, none⟩) 1 1) (w' := W.alloc (.cells #[.string ⟨#[32, 43, 32]⟩] 9)) ?_ ⟨Grows.alloc _ _, fun d hd => by cases hd; exact fh W [[32, 43, 32]] (by unfold maxLen; simp)⟩
         clear hg hc hf
         go_simp
       · refine eS (by decide) fun ρ W hc hf hI hg => ?_
         have As : Strs Any W [[32, 43, 32]] (ρ (.tmp 13)) := hg 13 (by decide)
         have k0 := hf 73
         refine es (f := 73) (args := #[ρ (.tmp 13)]) (w' := W) ?_ (fG W [32, 43, 32] _ As (by decide)) ?_
         · clear hg hc hf As
           go_simp
         · rintro e W' ⟨v, rfl, hv, hb⟩
           exact ⟨v, rfl, hb, fun d hd => by cases hd; exact hv⟩
       · refine eS (by decide) fun ρ W hc hf hI hg => ?_
         have g4 : ρ (.tmp 4) = .pointer (some ⟨wr.heap.size, 0, none⟩) := hg 4 (by decide)
         obtain ⟨d0, d1, d2, d3, _⟩ := fy (hI _ _ _ _ An.out (by decide) (by decide))
         have hV : kg Any W t (.agg #[.int .i64 t.coef, .string ⟨t.pred.toArray⟩, .slice pa t.args.length pc, .int .i64 t.value]) := ⟨_, rfl, Strs.keep (T := ei) HA.out (eM hI) (by decide)⟩
         refine ef (v := .agg #[.int .i64 t.coef, .string ⟨t.pred.toArray⟩, .slice pa t.args.length pc, .int .i64 t.value]) (w' := W) ?_ ⟨Grows.refl _, fun d hd => by cases hd; exact hV⟩
         clear hg hc hf hV
         go_simp
       · refine eS (by decide) fun ρ W hc hf hI hg => ?_
         have Av : kg Any W (t) (ρ (.tmp 15)) := hg 15 (by decide)
         have k0 := hf 282
         refine es (f := 282) (args := #[ρ (.tmp 15)]) (w' := W) ?_ (pT W (t) _ Av Ai.out) ?_
         · obtain ⟨bv, e, Ah⟩ := Av
           clear hg hc hf Ah
           go_simp
         · rintro e W' ⟨v, rfl, hv, hb⟩
           exact ⟨v, rfl, hb, fun d hd => by cases hd; exact hv⟩
       · refine eS (by decide) fun ρ W hc hf hI hg => ?_
         have Ar : Tells (some [32, 43, 32]) W (ρ (.tmp 14)) := hg 14 (by decide)
         have Aw : Tells (gQ XP t) W (ρ (.tmp 16)) := hg 16 (by decide)
         have hP := fF W [some [32, 43, 32], gQ XP t] [ρ (.tmp 14), ρ (.tmp 16)] rfl (by unfold maxLen; simp) ⟨Ar, Aw, trivial⟩
         obtain ⟨Be, Bn, Bk, -, -⟩ := Ar
         obtain ⟨Bi, Bm, Bj, -, -⟩ := Aw
         refine ef (v := .slice (some ⟨W.heap.size, 0, none⟩) 2 2) (w' := W.alloc (.cells #[ρ (.tmp 14), ρ (.tmp 16)] 86)) ?_ ⟨Grows.alloc _ _, fun d hd => by cases hd; exact hP⟩
         clear hg hc hf hP
         go_simp
       · refine kV (s1 := 12) (s2 := 17) (ms := [some [32, 43, 32], gQ XP t]) (by decide) (by decide) rfl (by simp) (fun W v h => h) (fun W v h => h) (fun d hd W v => by cases hd; trivial) ?_
         intro ρ W pa n pc hf g1 g2
         have k0 := hf 68
         clear hf
         go_simp
  · go_wp2_with fail
    go_end0
    have e : l.drop k = [] := List.drop_eq_nil_iff.2 (by omega)
    refine EndsW.some (bs := Ab) ?_ HR.out HK.out
    rw [HO.out, e]
    show some (Ab ++ []) = _
    simp
end Go.Proofs.YtbpphlmakmeoaaaGreatDoor.Sy
namespace Go.Proofs.YtbpphlmakmeoaaaGreatDoor.Sy
open Go.RowKit
theorem uz (w : World) (l : List ft) (sv : Value) (hp : Terms Any w l sv) (hl : lD l) : Calls Tryz.prog 225 #[sv] w (fp (gF XP l) w) := by
 have HP := ec hp
 have HL := ec hl
 obtain ⟨pa, pc, rfl⟩ := ed hp
 clear hp hl
 have Aa : Hid (Below w.heap.size w (w.alloc (.cells #[.slice pa l.length pc] 50))) := ec ((Below.refl _ _).alloc (Nat.le_refl _) _)
 have Ac := ec (heap_alloc_new w (.cells #[.slice pa l.length pc] 50))
 go_enter Tryz.func225, Tryz.ntmps225
 go_wp2_with fail
 go_ret
 refine ⟨_, rfl, ⟨_, _, rfl, fA Tryz.func281 (by kernel_rfl) (by kernel_rfl), fun R told w2 hk hW => ?_⟩, Aa.out⟩
 have Ad := hk _ _ _ _ Ac.out (by decide) (by decide)
 have Ab := (Keeps.of_below Aa.out).trans hk
 exact vB R told w2 hW l _ _ Ad (Terms.keep (T := ei) HP.out (eM Ab) (by decide) (by decide)) HL.out
theorem yl (w : World) (a : jf) (v : Value) (hv : tK Any w a v) (hfit : mF a) : Calls Tryz.prog 172 #[v] w (fp (td XP a) w) := by
 obtain ⟨lv, rv, rfl, hx, hy⟩ := hv
 have HFit := ec hfit
 obtain ⟨pa, pc, rfl⟩ := ed hx
 obtain ⟨qa, qc, rfl⟩ := ed hy
 obtain ⟨wB, Aa⟩ : ∃ x, x = w.alloc (.cells #[.slice pa a.left.length pc, .int .i64 a.op, .slice qa a.right.length qc] 53) := ⟨_, rfl⟩
 have Ab : Hid (Grows w wB) := ec (Aa ▸ Grows.alloc _ _)
 have hN : wB.heap[w.heap.size]? = some (.cells #[.slice pa a.left.length pc, .int .i64 a.op, .slice qa a.right.length qc] 53 (0, 0)) := Aa ▸ heap_alloc_new w _
 have c0 : wB.cell? ⟨w.heap.size, 0, none⟩ = some (.slice pa a.left.length pc) := cell_of_row wB w.heap.size 0 _ 53 _ hN
 have c1 : wB.cell? ⟨w.heap.size, 1, none⟩ = some (.int .i64 a.op) := cell_of_row wB w.heap.size 1 _ 53 _ hN
 have c2 : wB.cell? ⟨w.heap.size, 2, none⟩ = some (.slice qa a.right.length qc) := cell_of_row wB w.heap.size 2 _ 53 _ hN
 have Ap : Hid (Kd.holds (.terms a.left) wB (.slice pa a.left.length pc)) := ec (Kd.keep (k := .terms a.left) Ab.out.keeps hx)
 have An : Hid (Kd.holds (.terms a.right) wB (.slice qa a.right.length qc)) := ec (Kd.keep (k := .terms a.right) Ab.out.keeps hy)
 clear hN
 clear hx hy hfit
 go_enter Tryz.func172, Tryz.ntmps172
 go_wp2_with fail
 rename_i K hK
 rw [← Aa]
 refine gE (B := [1]) rN Grows (nj wB) (Gk [.any, .val (.pointer (some ⟨w.heap.size, 0, none⟩)), .part (ez [some [123], gF XP (a.left), some [32], eY (a.op) [[60], [60, 61], [61, 61], [60, 62], [62, 61], [62]], some [32], gF XP (a.right), some [125]]), .strs ([[123]]), .part (some [123]), .val (.pointer (some ⟨w.heap.size, 0, none⟩)), .terms (a.left), .part (gF XP (a.left)), .strs ([[32]]), .part (some [32]), .val (.pointer (some ⟨w.heap.size, 1, none⟩)), .val (.int .i64 a.op), .strs ([[60], [60, 61], [61, 61], [60, 62], [62, 61], [62]]), .part (eY (a.op) [[60], [60, 61], [61, 61], [60, 62], [62, 61], [62]]), .strs ([[32]]), .part (some [32]), .val (.pointer (some ⟨w.heap.size, 2, none⟩)), .terms (a.right), .part (gF XP (a.right)), .strs ([[125]]), .part (some [125]), .parts [some [123], gF XP (a.left), some [32], eY (a.op) [[60], [60, 61], [61, 61], [60, 62], [62, 61], [62]], some [32], gF XP (a.right), some [125]], .part (ez [some [123], gF XP (a.left), some [32], eY (a.op) [[60], [60, 61], [61, 61], [60, 62], [62, 61], [62]], some [32], gF XP (a.right), some [125]])]) 1000 (by kernel_rfl) (by kernel_rfl) (eZ (by kernel_rfl)) (jh (by kernel_rfl)) (fun s w w' v h => Gk.keep s w w' v h) (Grows.drew _) ?hb (ia ⟨?_, ?_, ?_, ?_, ?_, ?_, ?_, ?_, ?_, ?_, ?_, ?_, ?_, ?_, ?_, ?_, ?_, ?_, ?_, ?_, ?_, trivial⟩) (fun _ _ _ _ h => h.elim) ?hend
 case hb =>
  intro s hs
  simp only [List.mem_cons, List.not_mem_nil, or_false] at hs
  rcases hs with rfl <;> rfl
 case hend =>
  rintro ⟨tm, df⟩ w' _ Af hI _ Ah
  simp only at Af
  subst Af
  have hv := Ah 20 2 rfl
  refine hK _ _ (j0 (t := 2) Tryz.results172 rfl ⟨_, rfl, ?_, Grows.trans Ab.out hI⟩)
  exact hv
 · intro ρ W b hc hf _ hI hg
   have k0 := hc (.string ⟨#[123]⟩)
   refine ef (v := .slice (some ⟨W.heap.size, 0, none⟩) 1 1) (w' := W.alloc (.cells #[.string ⟨#[123]⟩] 9)) ?_ ⟨Grows.alloc _ _, Grows.trans hI (Grows.alloc _ _), fun d hd => by cases hd; exact fh W [[123]] (by unfold maxLen; simp)⟩
   clear hg hc hf
   go_simp
 · intro ρ W b hc hf _ hI hg
   have g3 : Strs Any W ([[123]]) (ρ (.tmp 3)) := hg 3 (by decide)
   have k0 := hf 73
   refine es (f := 73) (args := #[ρ (.tmp 3)]) (w' := W) ?_ (fG W [123] _ g3 (by decide)) ?_
   · clear hg hc hf
     go_simp
   · rintro e W' ⟨v, rfl, hv, hb⟩
     exact ⟨v, rfl, hb, Grows.trans hI hb, fun d hd => by cases hd; exact hv⟩
 · intro ρ W b hc hf _ hI hg
   have g1 : ρ (.tmp 1) = .pointer (some ⟨w.heap.size, 0, none⟩) := hg 1 (by decide)
   refine ef (v := .pointer (some ⟨w.heap.size, 0, none⟩)) (w' := W) ?_ ⟨Grows.refl _, hI, fun d hd => by cases hd; exact rfl⟩
   clear hg hc hf
   go_simp
 · intro ρ W b hc hf _ hI hg
   have g5 : ρ (.tmp 5) = .pointer (some ⟨w.heap.size, 0, none⟩) := hg 5 (by decide)
   have d0 := Grows.cell hI c0
   refine ef (v := .slice pa a.left.length pc) (w' := W) ?_ ⟨Grows.refl _, hI, fun d hd => by cases hd; exact (Kd.keep (k := .terms (a.left)) (Grows.keeps hI) Ap.out)⟩
   clear hg hc hf
   go_simp
 · intro ρ W b hc hf _ hI hg
   have g6 : Terms Any W (a.left) (ρ (.tmp 6)) := hg 6 (by decide)
   have k0 := hf 225
   refine es (f := 225) (args := #[ρ (.tmp 6)]) (w' := W) ?_ (uz W (a.left) _ g6 HFit.out.left) ?_
   · clear hg hc hf
     go_simp
   · rintro e W' ⟨v, rfl, hv, hb⟩
     exact ⟨v, rfl, hb, Grows.trans hI hb, fun d hd => by cases hd; exact hv⟩
 · intro ρ W b hc hf _ hI hg
   have k0 := hc (.string ⟨#[32]⟩)
   refine ef (v := .slice (some ⟨W.heap.size, 0, none⟩) 1 1) (w' := W.alloc (.cells #[.string ⟨#[32]⟩] 9)) ?_ ⟨Grows.alloc _ _, Grows.trans hI (Grows.alloc _ _), fun d hd => by cases hd; exact fh W [[32]] (by unfold maxLen; simp)⟩
   clear hg hc hf
   go_simp
 · intro ρ W b hc hf _ hI hg
   have g8 : Strs Any W ([[32]]) (ρ (.tmp 8)) := hg 8 (by decide)
   have k0 := hf 73
   refine es (f := 73) (args := #[ρ (.tmp 8)]) (w' := W) ?_ (fG W [32] _ g8 (by decide)) ?_
   · clear hg hc hf
     go_simp
   · rintro e W' ⟨v, rfl, hv, hb⟩
     exact ⟨v, rfl, hb, Grows.trans hI hb, fun d hd => by cases hd; exact hv⟩
 · intro ρ W b hc hf _ hI hg
   have g1 : ρ (.tmp 1) = .pointer (some ⟨w.heap.size, 0, none⟩) := hg 1 (by decide)
   refine ef (v := .pointer (some ⟨w.heap.size, 1, none⟩)) (w' := W) ?_ ⟨Grows.refl _, hI, fun d hd => by cases hd; exact rfl⟩
   clear hg hc hf
   go_simp
 · intro ρ W b hc hf _ hI hg
   have Ax : ρ (.tmp 10) = .pointer (some ⟨w.heap.size, 1, none⟩) := hg 10 (by decide)
   have d0 := Grows.cell hI c1
   refine ef (v := .int .i64 a.op) (w' := W) ?_ ⟨Grows.refl _, hI, fun d hd => by cases hd; exact rfl⟩
   clear hg hc hf
   go_simp
 · intro ρ W b hc hf _ hI hg
   have k0 := hc (.string ⟨#[60]⟩)
   have k1 := hc (.string ⟨#[60, 61]⟩)
   have k2 := hc (.string ⟨#[61, 61]⟩)
   have k3 := hc (.string ⟨#[60, 62]⟩)
   have k4 := hc (.string ⟨#[62, 61]⟩)
   have k5 := hc (.string ⟨#[62]⟩)
   refine ef (v := .slice (some ⟨W.heap.size, 0, none⟩) 6 6) (w' := W.alloc (.cells #[.string ⟨#[60]⟩, .string ⟨#[60, 61]⟩, .string ⟨#[61, 61]⟩, .string ⟨#[60, 62]⟩, .string ⟨#[62, 61]⟩, .string ⟨#[62]⟩] 9)) ?_ ⟨Grows.alloc _ _, Grows.trans hI (Grows.alloc _ _), fun d hd => by cases hd; exact fh W [[60], [60, 61], [61, 61], [60, 62], [62, 61], [62]] (by unfold maxLen; simp)⟩
   clear hg hc hf
   go_simp
 · intro ρ W b hc hf _ hI hg
   have As : ρ (.tmp 11) = .int .i64 a.op := hg 11 (by decide)
   have Ak : Strs Any W ([[60], [60, 61], [61, 61], [60, 62], [62, 61], [62]]) (ρ (.tmp 12)) := hg 12 (by decide)
   have k0 := hf 226
   refine es (f := 226) (args := #[.int .i64 (a.op), ρ (.tmp 12)]) (w' := W) ?_ (um W (a.op) HFit.out.op.1 HFit.out.op.2 [[60], [60, 61], [61, 61], [60, 62], [62, 61], [62]] _ Ak (by simp) (by intro x hx; simp only [List.mem_cons, List.not_mem_nil, or_false] at hx; rcases hx with rfl | rfl | rfl | rfl | rfl | rfl <;> decide)) ?_
   · clear hg hc hf
     go_simp
   · rintro e W' ⟨v, rfl, hv, hb⟩
     exact ⟨v, rfl, hb, Grows.trans hI hb, fun d hd => by cases hd; exact hv⟩
 · intro ρ W b hc hf _ hI hg
   have k0 := hc (.string ⟨#[32]⟩)
   refine ef (v := .slice (some ⟨W.heap.size, 0, none⟩) 1 1) (w' := W.alloc (.cells #[.string ⟨#[32]⟩] 9)) ?_ ⟨Grows.alloc _ _, Grows.trans hI (Grows.alloc _ _), fun d hd => by cases hd; exact fh W [[32]] (by unfold maxLen; simp)⟩
   clear hg hc hf
   go_simp
 · intro ρ W b hc hf _ hI hg
   have Ai : Strs Any W ([[32]]) (ρ (.tmp 14)) := hg 14 (by decide)
   have k0 := hf 73
   refine es (f := 73) (args := #[ρ (.tmp 14)]) (w' := W) ?_ (fG W [32] _ Ai (by decide)) ?_
   · clear hg hc hf
     go_simp
   · rintro e W' ⟨v, rfl, hv, hb⟩
     exact ⟨v, rfl, hb, Grows.trans hI hb, fun d hd => by cases hd; exact hv⟩
 · intro ρ W b hc hf _ hI hg
   have g1 : ρ (.tmp 1) = .pointer (some ⟨w.heap.size, 0, none⟩) := hg 1 (by decide)
   refine ef (v := .pointer (some ⟨w.heap.size, 2, none⟩)) (w' := W) ?_ ⟨Grows.refl _, hI, fun d hd => by cases hd; exact rfl⟩
   clear hg hc hf
   go_simp
 · intro ρ W b hc hf _ hI hg
   have AE : ρ (.tmp 16) = .pointer (some ⟨w.heap.size, 2, none⟩) := hg 16 (by decide)
   have d0 := Grows.cell hI c2
   refine ef (v := .slice qa a.right.length qc) (w' := W) ?_ ⟨Grows.refl _, hI, fun d hd => by cases hd; exact (Kd.keep (k := .terms (a.right)) (Grows.keeps hI) An.out)⟩
   clear hg hc hf
   go_simp
 · intro ρ W b hc hf _ hI hg
   have Am : Terms Any W (a.right) (ρ (.tmp 17)) := hg 17 (by decide)
   have k0 := hf 225
   refine es (f := 225) (args := #[ρ (.tmp 17)]) (w' := W) ?_ (uz W (a.right) _ Am HFit.out.right) ?_
   · clear hg hc hf
     go_simp
   · rintro e W' ⟨v, rfl, hv, hb⟩
     exact ⟨v, rfl, hb, Grows.trans hI hb, fun d hd => by cases hd; exact hv⟩
 · intro ρ W b hc hf _ hI hg
   have k0 := hc (.string ⟨#[125]⟩)
   refine ef (v := .slice (some ⟨W.heap.size, 0, none⟩) 1 1) (w' := W.alloc (.cells #[.string ⟨#[125]⟩] 9)) ?_ ⟨Grows.alloc _ _, Grows.trans hI (Grows.alloc _ _), fun d hd => by cases hd; exact fh W [[125]] (by unfold maxLen; simp)⟩
   clear hg hc hf
   go_simp
 · intro ρ W b hc hf _ hI hg
   have Ao : Strs Any W ([[125]]) (ρ (.tmp 19)) := hg 19 (by decide)
   have k0 := hf 73
   refine es (f := 73) (args := #[ρ (.tmp 19)]) (w' := W) ?_ (fG W [125] _ Ao (by decide)) ?_
   · clear hg hc hf
     go_simp
   · rintro e W' ⟨v, rfl, hv, hb⟩
     exact ⟨v, rfl, hb, Grows.trans hI hb, fun d hd => by cases hd; exact hv⟩
 · intro ρ W b hc hf _ hI hg
   have g4 : Tells (some [123]) W (ρ (.tmp 4)) := hg 4 (by decide)
   have g7 : Tells (gF XP (a.left)) W (ρ (.tmp 7)) := hg 7 (by decide)
   have g9 : Tells (some [32]) W (ρ (.tmp 9)) := hg 9 (by decide)
   have Ae : Tells (eY (a.op) [[60], [60, 61], [61, 61], [60, 62], [62, 61], [62]]) W (ρ (.tmp 13)) := hg 13 (by decide)
   have Ag : Tells (some [32]) W (ρ (.tmp 15)) := hg 15 (by decide)
   have Ad : Tells (gF XP (a.right)) W (ρ (.tmp 18)) := hg 18 (by decide)
   have Ac : Tells (some [125]) W (ρ (.tmp 20)) := hg 20 (by decide)
   have hP := fF W [some [123], gF XP (a.left), some [32], eY (a.op) [[60], [60, 61], [61, 61], [60, 62], [62, 61], [62]], some [32], gF XP (a.right), some [125]] [ρ (.tmp 4), ρ (.tmp 7), ρ (.tmp 9), ρ (.tmp 13), ρ (.tmp 15), ρ (.tmp 18), ρ (.tmp 20)] rfl (by unfold maxLen; simp) ⟨g4, g7, g9, Ae, Ag, Ad, Ac, trivial⟩
   obtain ⟨k4, q4, e4, -, -⟩ := g4
   obtain ⟨k7, q7, e7, -, -⟩ := g7
   obtain ⟨k9, q9, e9, -, -⟩ := g9
   obtain ⟨AB, Aq, Ar, -, -⟩ := Ae
   obtain ⟨Az, Ay, AD, -, -⟩ := Ag
   obtain ⟨At, AC, Au, -, -⟩ := Ad
   obtain ⟨AA, Av, Aw, -, -⟩ := Ac
   refine ef (v := .slice (some ⟨W.heap.size, 0, none⟩) 7 7) (w' := W.alloc (.cells #[ρ (.tmp 4), ρ (.tmp 7), ρ (.tmp 9), ρ (.tmp 13), ρ (.tmp 15), ρ (.tmp 18), ρ (.tmp 20)] 86)) ?_ ⟨Grows.alloc _ _, Grows.trans hI (Grows.alloc _ _), fun d hd => by cases hd; exact hP⟩
   clear hg hc hf hP
   go_simp
 · intro ρ W b hc hf _ hI hg
   have Aj : Parts W [some [123], gF XP (a.left), some [32], eY (a.op) [[60], [60, 61], [61, 61], [60, 62], [62, 61], [62]], some [32], gF XP (a.right), some [125]] (ρ (.tmp 21)) := hg 21 (by decide)
   have k0 := hf 70
   refine es (f := 70) (args := #[ρ (.tmp 21)]) (w' := W) ?_ (hM W [some [123], gF XP (a.left), some [32], eY (a.op) [[60], [60, 61], [61, 61], [60, 62], [62, 61], [62]], some [32], gF XP (a.right), some [125]] _ Aj (by simp)) ?_
   · clear hg hc hf
     go_simp
   · rintro e W' ⟨v, rfl, hv, hb⟩
     exact ⟨v, rfl, hb, Grows.trans hI hb, fun d hd => by cases hd; exact hv⟩
 · intro ρ W b hc hf _ hI hg
   have Al : Tells (ez [some [123], gF XP (a.left), some [32], eY (a.op) [[60], [60, 61], [61, 61], [60, 62], [62, 61], [62]], some [32], gF XP (a.right), some [125]]) W (ρ (.tmp 22)) := hg 22 (by decide)
   exact ef (v := ρ (.tmp 22)) (w' := W) rfl ⟨Grows.refl _, hI, fun d hd => by cases hd; exact Al⟩
theorem uL (w : World) (p : f9) (v : Value) (hv : oR Any w p v) (hfit : rr p) : Calls Tryz.prog 118 #[v] w (fp (fI XP p) w) := by
 obtain ⟨av, lv, rv, rfl, hx, hy, hz⟩ := hv
 have HFit := ec hfit
 obtain ⟨pa, pc, rfl⟩ := ed hx
 obtain ⟨qa, qc, rfl⟩ := ed hy
 obtain ⟨ra, rc, rfl⟩ := ed hz
 have Aa := ec (Grows.alloc w (.cells #[.int .i64 p.kind, .bool p.lit.neg, .string ⟨p.lit.pred.toArray⟩, .slice pa p.lit.args.length pc, .bool p.lit.hasValue, .int .i64 p.lit.value, .slice qa p.guard.left.length qc, .int .i64 p.guard.op, .slice ra p.guard.right.length rc, .string ⟨p.a.toArray⟩, .string ⟨p.b.toArray⟩] 108))
 have HX := ec (Strs.keep (T := ei) hx (eM Aa.out.keeps) (by decide))
 have HY := ec (Terms.keep (T := ei) hy (eM Aa.out.keeps) (by decide) (by decide))
 have HZ := ec (Terms.keep (T := ei) hz (eM Aa.out.keeps) (by decide) (by decide))
 clear hx hy hz hfit
 by_cases h1 : p.kind = 1
 · have HE : Hid (fI XP p = kr XP p.lit) := ec (if_pos h1)
   have C := ec (pq _ p.lit _ ⟨_, rfl, HX.out⟩ HFit.out.lit)
   rw [h1] at C Aa ⊢
   clear h1
   go_enter Tryz.func118, Tryz.ntmps118
   go_wp2_with fail
   refine C.out.mono ?_
   rintro _ w1 ⟨v, rfl, hv, hb⟩
   obtain ⟨k, q, rfl, hf, hc⟩ := hv
   have HF : Hid (fp (fI XP p) w (.returned (.func (.func k) #[] q)) w1) := ec ⟨_, rfl, by rw [HE.out]; exact ⟨k, q, rfl, hf, hc⟩, Grows.trans Aa.out hb⟩
   clear hf hc hb C
   go_wp2_with fail
   go_ret
   exact HF.out
 · by_cases h2 : p.kind = 2
   · have HE : Hid (fI XP p = td XP p.guard) := ec (by unfold fI; rw [if_neg h1, if_pos h2])
     have C := ec (yl _ p.guard _ ⟨_, _, rfl, HY.out, HZ.out⟩ HFit.out.guard)
     rw [h2] at C Aa ⊢
     clear h1 h2
     go_enter Tryz.func118, Tryz.ntmps118
     go_wp2_with fail
     refine C.out.mono ?_
     rintro _ w1 ⟨v, rfl, hv, hb⟩
     obtain ⟨k, q, rfl, hf, hc⟩ := hv
     have HF : Hid (fp (fI XP p) w (.returned (.func (.func k) #[] q)) w1) := ec ⟨_, rfl, by rw [HE.out]; exact ⟨k, q, rfl, hf, hc⟩, Grows.trans Aa.out hb⟩
     clear hf hc hb C
     go_wp2_with fail
     go_ret
     exact HF.out
   · by_cases h3 : p.kind = 3
     · have HE : Hid (fI XP p = eX [p.a, [32, 33, 61, 32], p.b]) := ec (by unfold fI; rw [if_neg h1, if_neg h2, if_pos h3])
       have C := ec (iV _ [p.a, [32, 33, 61, 32], p.b] _ (fh (w.alloc (.cells #[.int .i64 p.kind, .bool p.lit.neg, .string ⟨p.lit.pred.toArray⟩, .slice pa p.lit.args.length pc, .bool p.lit.hasValue, .int .i64 p.lit.value, .slice qa p.guard.left.length qc, .int .i64 p.guard.op, .slice ra p.guard.right.length rc, .string ⟨p.a.toArray⟩, .string ⟨p.b.toArray⟩] 108)) [p.a, [32, 33, 61, 32], p.b] (by unfold maxLen; simp)) (by simp) (by intro x hx; simp only [List.mem_cons, List.not_mem_nil, or_false] at hx; rcases hx with rfl | rfl | rfl <;> first | decide | exact HFit.out.a | exact HFit.out.b))
       rw [show (w.alloc (.cells #[.int .i64 p.kind, .bool p.lit.neg, .string ⟨p.lit.pred.toArray⟩, .slice pa p.lit.args.length pc, .bool p.lit.hasValue, .int .i64 p.lit.value, .slice qa p.guard.left.length qc, .int .i64 p.guard.op, .slice ra p.guard.right.length rc, .string ⟨p.a.toArray⟩, .string ⟨p.b.toArray⟩] 108)).heap.size = w.heap.size + 1 by simp] at C
       have Ab := ec (Grows.trans Aa.out (Grows.alloc _ (.cells #[.string ⟨p.a.toArray⟩, .string ⟨#[32, 33, 61, 32]⟩, .string ⟨p.b.toArray⟩] 9)))
       rw [h3] at C Ab ⊢
       clear h1 h2 h3
       go_enter Tryz.func118, Tryz.ntmps118
       go_wp2_with fail
       refine C.out.mono ?_
       rintro _ w1 ⟨v, rfl, hv, hb⟩
       obtain ⟨k, q, rfl, hf, hc⟩ := hv
       have HF : Hid (fp (fI XP p) w (.returned (.func (.func k) #[] q)) w1) := ec ⟨_, rfl, by rw [HE.out]; exact ⟨k, q, rfl, hf, hc⟩, Grows.trans Ab.out hb⟩
       clear hf hc hb C
       go_wp2_with fail
       go_ret
       exact HF.out
     · have HE : Hid (fI XP p = none) := ec (by unfold fI; rw [if_neg h1, if_neg h2, if_neg h3])
       go_enter Tryz.func118, Tryz.ntmps118
       go_wp2_with fail
       go_ret
       refine ⟨_, rfl, ?_, Aa.out⟩
       rw [HE.out]
       refine ⟨_, _, rfl, fA Tryz.func173 (by kernel_rfl) (by kernel_rfl), fun R told w2 hk hW => ?_⟩
       have CG := ec (jr w2)
       show Calls Tryz.prog 173 #[.pointer (some ⟨R, 0, none⟩)] w2 _
       go_enter Tryz.func173, Tryz.ntmps173
       go_wp2_with fail
       refine CG.out.mono ?_
       rintro e w3 ⟨rfl, rfl⟩
       exact eg rfl (EndsW.none rfl (Kw.refl _ _))
end Go.Proofs.YtbpphlmakmeoaaaGreatDoor.Sy
namespace Go.Proofs.YtbpphlmakmeoaaaGreatDoor.Sy
open Go.RowKit
theorem ot (R : Nat) (told : ee) (w : World) (h : Wr R told w) (l : List f9) (sv : Value) (b1 b2 : Nat) (h1 : w.heap[b1]? = some (.cells #[sv] 43 (0, 0))) (h2 : w.heap[b2]? = some (.cells #[.func (.func 118) #[] #[]] 194 (0, 0))) (hp : Prems Any w l sv) (hl : mC l) :
    Calls Tryz.prog 210 #[.pointer (some ⟨R, 0, none⟩), .pointer (some ⟨b1, 0, none⟩), .pointer (some ⟨b2, 0, none⟩)] w (EndsW R told (fd (l.map (fI XP))) w) := by
 have c1 := fv h1
 have HP := ec hp
 have HW := ec h
 have HL := ec hl
 have AM := hl.len
 have H2 := ec (fv h2)
 obtain ⟨pa, pc, rfl⟩ := ed hp
 have H2b := ec h2
 clear h1 h2 hp h hl
 go_enter Tryz.func210, Tryz.ntmps210
 go_wp2_with fail
 go_loopw [8] (fun x wr => ∃ (k : Nat) (Ab : ee), k ≤ l.length ∧ x = .int .i64 k ∧ Hid (Wr R (told ++ Ab) wr) ∧ Hid (Kw R w wr) ∧ Hid (fd (l.map (fI XP)) = Told.app (some Ab) (hC (decide (0 < k)) ((l.drop k).map (fI XP))))) (fun x _ => l.length - (intOf x).toNat)
 case atStart => exact ⟨0, [], by omega, rfl, ec (by simpa using HW.out), ec (Kw.refl R w), ec (by rw [iG]; rfl)⟩
 case round =>
  obtain ⟨k, Ab, hk, rfl, HR, HK, HO⟩ := hrel
  by_cases hlt : k < l.length
  · obtain ⟨t, ht⟩ : ∃ t, l[k]? = some t := ⟨l[k], by simp [hlt]⟩
    have HT := ec (List.mem_of_getElem? ht)
    have HD : Hid ((l.drop k).map (fI XP) = fI XP t :: (l.drop (k + 1)).map (fI XP)) := ec (by rw [List.drop_eq_getElem_cons hlt, (List.getElem?_eq_some_iff.1 ht).2]; rfl)
    obtain ⟨ga, xa, ya, e1, _, h1, h2⟩ := Rows.at (Prems.keep HP.out (eM HK.out.keeps)) ht
    simp only [Value.slice.injEq] at e1
    obtain ⟨rfl, _, rfl⟩ := e1
    obtain ⟨av, lv, rv, rfl, hx, hy, hz⟩ := h1
    obtain ⟨za, zc, rfl⟩ := ed hx
    obtain ⟨qa, qc, rfl⟩ := ed hy
    obtain ⟨ra, rc, rfl⟩ := ed hz
    have a0 : wr.cell? ⟨ga, k * 11, none⟩ = some (.int .i64 t.kind) := by have := h2 0 _ rfl; simpa using this
    have a1 : wr.cell? ⟨ga, k * 11 + 1, none⟩ = some (.bool t.lit.neg) := by have := h2 1 _ rfl; simpa using this
    have a2 : wr.cell? ⟨ga, k * 11 + 2, none⟩ = some (.string ⟨t.lit.pred.toArray⟩) := by have := h2 2 _ rfl; simpa using this
    have a3 : wr.cell? ⟨ga, k * 11 + 3, none⟩ = some (.slice za t.lit.args.length zc) := by have := h2 3 _ rfl; simpa using this
    have a4 : wr.cell? ⟨ga, k * 11 + 4, none⟩ = some (.bool t.lit.hasValue) := by have := h2 4 _ rfl; simpa using this
    have a5 : wr.cell? ⟨ga, k * 11 + 5, none⟩ = some (.int .i64 t.lit.value) := by have := h2 5 _ rfl; simpa using this
    have a6 : wr.cell? ⟨ga, k * 11 + 6, none⟩ = some (.slice qa t.guard.left.length qc) := by have := h2 6 _ rfl; simpa using this
    have a7 : wr.cell? ⟨ga, k * 11 + 7, none⟩ = some (.int .i64 t.guard.op) := by have := h2 7 _ rfl; simpa using this
    have a8 : wr.cell? ⟨ga, k * 11 + 8, none⟩ = some (.slice ra t.guard.right.length rc) := by have := h2 8 _ rfl; simpa using this
    have a9 : wr.cell? ⟨ga, k * 11 + 9, none⟩ = some (.string ⟨t.a.toArray⟩) := by have := h2 9 _ rfl; simpa using this
    have Au : wr.cell? ⟨ga, k * 11 + 10, none⟩ = some (.string ⟨t.b.toArray⟩) := by have := h2 10 _ rfl; simpa using this
    have Ac : Grows wr (wr.alloc (.cells #[.int .i64 t.kind, .bool t.lit.neg, .string ⟨t.lit.pred.toArray⟩, .slice za t.lit.args.length zc, .bool t.lit.hasValue, .int .i64 t.lit.value, .slice qa t.guard.left.length qc, .int .i64 t.guard.op, .slice ra t.guard.right.length rc, .string ⟨t.a.toArray⟩, .string ⟨t.b.toArray⟩] 108)) := Grows.alloc _ _
    have HX := ec (Strs.keep (T := ei) hx (eM Ac.keeps) (by decide))
    have HY := ec (Terms.keep (T := ei) hy (eM Ac.keeps) (by decide) (by decide))
    have HZ := ec (Terms.keep (T := ei) hz (eM Ac.keeps) (by decide) (by decide))
    have Ag := ec (heap_alloc_new wr (.cells #[.int .i64 t.kind, .bool t.lit.neg, .string ⟨t.lit.pred.toArray⟩, .slice za t.lit.args.length zc, .bool t.lit.hasValue, .int .i64 t.lit.value, .slice qa t.guard.left.length qc, .int .i64 t.guard.op, .slice ra t.guard.right.length rc, .string ⟨t.a.toArray⟩, .string ⟨t.b.toArray⟩] 108))
    have HWq := ec (HR.out.below Ac)
    have HKq := ec (HK.out.trans (Kw.of_below Ac (Nat.le_of_lt HR.out.lt)))
    clear h2 ht hx hy hz
    go_wp2_with fail
    rename_i K hK
    obtain ⟨wq, Am⟩ : ∃ x, x = wr.alloc (.cells #[.int .i64 t.kind, .bool t.lit.neg, .string ⟨t.lit.pred.toArray⟩, .slice za t.lit.args.length zc, .bool t.lit.hasValue, .int .i64 t.lit.value, .slice qa t.guard.left.length qc, .int .i64 t.guard.op, .slice ra t.guard.right.length rc, .string ⟨t.a.toArray⟩, .string ⟨t.b.toArray⟩] 108) := ⟨_, rfl⟩
    rw [← Am] at HX HY HZ Ag HWq HKq Ac ⊢
    refine gE (B := [0, 2, 4, 5]) (mq R (ez [ey (decide (0 < k)) (some [44, 32]), fI XP t]) wq) Keeps (RoundI R (told ++ Ab) (ez [ey (decide (0 < k)) (some [44, 32]), fI XP t]) wq) (Gk [.val (.pointer (some ⟨R, 0, none⟩)), .any, .val (.pointer (some ⟨b2, 0, none⟩)), .any, .val (.int .i64 k), .val (.pointer (some ⟨wr.heap.size, 0, none⟩)), .any, .any, .any, .any, .any, .any, .any, .val (.pointer (some ⟨R, 0, none⟩)), .val (.int .i64 k), .val (.bool (decide (0 < k))), .strs [[44, 32]], .part (some [44, 32]), .part (ey (decide (0 < k)) (some [44, 32])), .val (.func (.func 118) #[] #[]), .val (.agg #[.int .i64 t.kind, .bool t.lit.neg, .string ⟨t.lit.pred.toArray⟩, .slice za t.lit.args.length zc, .bool t.lit.hasValue, .int .i64 t.lit.value, .slice qa t.guard.left.length qc, .int .i64 t.guard.op, .slice ra t.guard.right.length rc, .string ⟨t.a.toArray⟩, .string ⟨t.b.toArray⟩]), .part (fI XP t), .parts [ey (decide (0 < k)) (some [44, 32]), fI XP t]]) 10 (by kernel_rfl) (by kernel_rfl) (eZ (by kernel_rfl)) (jh (by kernel_rfl)) (fun s w w' v h hg => Kd.keep h hg) ⟨Grows.drew wq, HWq.out⟩ ?hb (ia ⟨?_, ?_, ?_, ?_, ?_, ?_, ?_, ?_, ?_, ?_, ?_, trivial⟩) ?hE ?hend
    case hb =>
     intro s hs
     simp only [List.mem_cons, List.not_mem_nil, or_false] at hs
     rcases hs with rfl | rfl | rfl | rfl <;> rfl
    case hE =>
     rintro c a' w' Ad ⟨rfl, hm, hk'⟩
     refine ⟨Ad, EndsW.none ?_ (HKq.out.trans hk')⟩
     rw [HO.out, HD.out]
     show Told.app (some Ab) (Told.app (Told.app (ey (decide (0 < k)) (some [44, 32])) (fI XP t)) _) = none
     have hm' : Told.app (ey (decide (0 < k)) (some [44, 32])) (fI XP t) = none := by
      have := hm
      simpa [ez, j1] using this
     rw [hm']
     rfl
    case hend =>
     rintro ⟨tm, df⟩ w' Ae Ad ⟨bs, hm, Aj, Ak⟩ Aa _
     simp only at Ad Ae
     subst Ad
     obtain ⟨x0, x1, x2, x3, x4, x5, x6, x7, x8, x9, AB, AE, AP, AK, AH, Az, Ax, AJ, AO, Av, Ay, Ar, AQ, AA, AN, rfl⟩ := vk Ae
     have e0 := Aa 0 (eZ (B := [0]) (by kernel_rfl) 0 (by simp))
     have e1 := Aa 1 (eZ (B := [1]) (by kernel_rfl) 1 (by simp))
     have e2 := Aa 2 (eZ (B := [2]) (by kernel_rfl) 2 (by simp))
     have e3 := Aa 3 (eZ (B := [3]) (by kernel_rfl) 3 (by simp))
     have e6 := Aa 6 (eZ (B := [6]) (by kernel_rfl) 6 (by simp))
     have e7 := Aa 7 (eZ (B := [7]) (by kernel_rfl) 7 (by simp))
     have e8 := Aa 8 (eZ (B := [8]) (by kernel_rfl) 8 (by simp))
     simp at e0 e1 e2 e3 e6 e7 e8
     subst e0 e1 e2 e3 e6 e7 e8
     have Ap := ec Aj
     have Ao := ec (HKq.out.trans Ak)
     have An : Hid (fd (l.map (fI XP)) = Told.app (some (Ab ++ bs)) (hC (decide (0 < k + 1)) ((l.drop (k + 1)).map (fI XP)))) := ec (by
      rw [HO.out, HD.out]
      show Told.app (some Ab) (Told.app (Told.app (ey (decide (0 < k)) (some [44, 32])) (fI XP t)) (hC true _)) = _
      have hm' : Told.app (ey (decide (0 < k)) (some [44, 32])) (fI XP t) = some bs := by
       have := hm
       simpa [ez, j1] using this
      rw [hm', ← gA]
      simp [Told.app])
     clear Ae hm Aj Ak Aa HR HK HO
     refine hK _ _ ?_
     go_wp2_with fail
     go_roundw
     case rel => exact ⟨k + 1, Ab ++ bs, by omega, by go_num, by rw [← List.append_assoc]; exact Ap, Ao, An⟩
     case measure => simp [intOf]; omega
    · exact eS (by decide) fun ρ W hc hf hI hg => ef (v := ρ (.tmp 0)) (w' := W) rfl ⟨Grows.refl _, fun d hd => by cases hd; exact (show ρ (.tmp 0) = _ from hg 0 (by decide))⟩
    · exact eS (by decide) fun ρ W hc hf hI hg => ef (v := ρ (.tmp 4)) (w' := W) rfl ⟨Grows.refl _, fun d hd => by cases hd; exact (show ρ (.tmp 4) = _ from hg 4 (by decide))⟩
    · refine eS (by decide) fun ρ W hc hf hI hg => ?_
      have Aq : ρ (.tmp 14) = .int .i64 k := hg 14 (by decide)
      have k0 := hc (.int .i64 0)
      refine ef (v := .bool (decide (0 < k))) (w' := W) ?_ ⟨Grows.refl _, fun d hd => by cases hd; exact rfl⟩
      clear hg hc hf
      go_simp
    · refine eS (by decide) fun ρ W hc hf hI hg => ?_
      have k0 := hc (.string ⟨#[44, 32]⟩)
      refine ef (v := .slice (some ⟨W.heap.size, 0, none⟩) 1 1) (w' := W.alloc (.cells #[.string ⟨#[44, 32]⟩] 9)) ?_ ⟨Grows.alloc _ _, fun d hd => by cases hd; exact fh W [[44, 32]] (by unfold maxLen; simp)⟩
      clear hg hc hf
      go_simp
    · refine eS (by decide) fun ρ W hc hf hI hg => ?_
      have Al : Strs Any W [[44, 32]] (ρ (.tmp 16)) := hg 16 (by decide)
      have k0 := hf 73
      refine es (f := 73) (args := #[ρ (.tmp 16)]) (w' := W) ?_ (fG W [44, 32] _ Al (by decide)) ?_
      · clear hg hc hf Al
        go_simp
      · rintro e W' ⟨v, rfl, hv, hb⟩
        exact ⟨v, rfl, hb, fun d hd => by cases hd; exact hv⟩
    · refine eS (by decide) fun ρ W hc hf hI hg => ?_
      have AF : ρ (.tmp 15) = .bool (decide (0 < k)) := hg 15 (by decide)
      have Ai : Tells (some [44, 32]) W (ρ (.tmp 17)) := hg 17 (by decide)
      have k0 := hf 71
      refine es (f := 71) (args := #[.bool (decide (0 < k)), ρ (.tmp 17)]) (w' := W) ?_ (iw W (decide (0 < k)) _ _ Ai) ?_
      · clear hg hc hf Ai
        go_simp
      · rintro e W' ⟨v, rfl, hv, hb⟩
        exact ⟨v, rfl, hb, fun d hd => by cases hd; exact hv⟩
    · refine eS (by decide) fun ρ W hc hf hI hg => ?_
      have g2 : ρ (.tmp 2) = .pointer (some ⟨b2, 0, none⟩) := hg 2 (by decide)
      have d0 := fv (hI _ _ _ _ (HKq.out.keep _ _ _ _ H2b.out (by decide) (by decide)) (by decide) (by decide))
      refine ef (v := .func (.func 118) #[] #[]) (w' := W) ?_ ⟨Grows.refl _, fun d hd => by cases hd; exact rfl⟩
      clear hg hc hf
      go_simp
    · refine eS (by decide) fun ρ W hc hf hI hg => ?_
      have g5 : ρ (.tmp 5) = .pointer (some ⟨wr.heap.size, 0, none⟩) := hg 5 (by decide)
      obtain ⟨d0, d1, d2, d3, d4, d5, d6, d7, d8, d9, d10, _⟩ := eF (hI _ _ _ _ Ag.out (by decide) (by decide))
      refine ef (v := .agg #[.int .i64 t.kind, .bool t.lit.neg, .string ⟨t.lit.pred.toArray⟩, .slice za t.lit.args.length zc, .bool t.lit.hasValue, .int .i64 t.lit.value, .slice qa t.guard.left.length qc, .int .i64 t.guard.op, .slice ra t.guard.right.length rc, .string ⟨t.a.toArray⟩, .string ⟨t.b.toArray⟩]) (w' := W) ?_ ⟨Grows.refl _, fun d hd => by cases hd; exact rfl⟩
      clear hg hc hf
      go_simp
    · refine eS (by decide) fun ρ W hc hf hI hg => ?_
      have AG : ρ (.tmp 19) = .func (.func 118) #[] #[] := hg 19 (by decide)
      have As : ρ (.tmp 20) = .agg #[.int .i64 t.kind, .bool t.lit.neg, .string ⟨t.lit.pred.toArray⟩, .slice za t.lit.args.length zc, .bool t.lit.hasValue, .int .i64 t.lit.value, .slice qa t.guard.left.length qc, .int .i64 t.guard.op, .slice ra t.guard.right.length rc, .string ⟨t.a.toArray⟩, .string ⟨t.b.toArray⟩] := hg 20 (by decide)
      have k1 := fA Tryz.func118 (by kernel_rfl) (by kernel_rfl)
      refine es (f := 118) (args := #[.agg #[.int .i64 t.kind, .bool t.lit.neg, .string ⟨t.lit.pred.toArray⟩, .slice za t.lit.args.length zc, .bool t.lit.hasValue, .int .i64 t.lit.value, .slice qa t.guard.left.length qc, .int .i64 t.guard.op, .slice ra t.guard.right.length rc, .string ⟨t.a.toArray⟩, .string ⟨t.b.toArray⟩]]) (w' := W) ?_ (uL W t _ ⟨_, _, _, rfl, Strs.keep (T := ei) HX.out (eM hI) (by decide), Terms.keep (T := ei) HY.out (eM hI) (by decide) (by decide), Terms.keep (T := ei) HZ.out (eM hI) (by decide) (by decide)⟩ (HL.out.all t HT.out)) ?_
      · clear hg hc hf
        go_simp
      · rintro e W' ⟨v, rfl, hv, hb⟩
        exact ⟨v, rfl, hb, fun d hd => by cases hd; exact hv⟩
    · refine eS (by decide) fun ρ W hc hf hI hg => ?_
      have Ah : Tells (ey (decide (0 < k)) (some [44, 32])) W (ρ (.tmp 18)) := hg 18 (by decide)
      have Af : Tells (fI XP t) W (ρ (.tmp 21)) := hg 21 (by decide)
      have hP := fF W [ey (decide (0 < k)) (some [44, 32]), fI XP t] [ρ (.tmp 18), ρ (.tmp 21)] rfl (by unfold maxLen; simp) ⟨Ah, Af, trivial⟩
      obtain ⟨At, AI, Aw, -, -⟩ := Ah
      obtain ⟨AD, AC, AL, -, -⟩ := Af
      refine ef (v := .slice (some ⟨W.heap.size, 0, none⟩) 2 2) (w' := W.alloc (.cells #[ρ (.tmp 18), ρ (.tmp 21)] 86)) ?_ ⟨Grows.alloc _ _, fun d hd => by cases hd; exact hP⟩
      clear hg hc hf hP
      go_simp
    · refine kV (s1 := 13) (s2 := 22) (ms := [ey (decide (0 < k)) (some [44, 32]), fI XP t]) (by decide) (by decide) rfl (by simp) (fun W v h => h) (fun W v h => h) (fun d hd W v => by cases hd; trivial) ?_
      intro ρ W pa n pc hf g1 g2
      have k0 := hf 68
      clear hf
      go_simp
  · go_wp2_with fail
    go_end0
    have e : l.drop k = [] := List.drop_eq_nil_iff.2 (by omega)
    refine EndsW.some (bs := Ab) ?_ HR.out HK.out
    rw [HO.out, e]
    show some (Ab ++ []) = _
    simp
theorem sn (w : World) (l : List f9) (sv : Value) (hp : Prems Any w l sv) (hl : mC l) : Calls Tryz.prog 149 #[sv, .func (.func 118) #[] #[]] w (fp (fd (l.map (fI XP))) w) := by
 have HP := ec hp
 have HL := ec hl
 obtain ⟨pa, pc, rfl⟩ := ed hp
 clear hp hl
 have Ab : Hid (Below w.heap.size w ((w.alloc (.cells #[.slice pa l.length pc] 43)).alloc (.cells #[.func (.func 118) #[] #[]] 194))) := ec (((Below.refl _ _).alloc (Nat.le_refl _) _).alloc (by simp) _)
 have Aa := ec (gL w (.cells #[.slice pa l.length pc] 43) (.cells #[.func (.func 118) #[] #[]] 194))
 go_enter Tryz.func149, Tryz.ntmps149
 go_wp2_with fail
 go_ret
 refine ⟨_, rfl, ⟨_, _, rfl, fA Tryz.func210 (by kernel_rfl) (by kernel_rfl), fun R told w2 hk hW => ?_⟩, Ab.out⟩
 have Ae := hk _ _ _ _ Aa.out.1 (by decide) (by decide)
 have Ad := hk _ _ _ _ Aa.out.2 (by decide) (by decide)
 have Ac := (Keeps.of_below Ab.out).trans hk
 exact ot R told w2 hW l _ _ _ Ae Ad (Prems.keep HP.out (eM Ac)) HL.out
end Go.Proofs.YtbpphlmakmeoaaaGreatDoor.Sy
namespace Go.Proofs.YtbpphlmakmeoaaaGreatDoor.Sy
open Go.RowKit
theorem wi (w : World) (a : ee × Int) (h1 : fC a.1) (h2 : ic a.2) : Calls Tryz.prog 83 #[.agg #[.string ⟨a.1.toArray⟩, .int .i64 a.2]] w (fp (gy XP a) w) := by
 obtain ⟨wB, Aa⟩ : ∃ x, x = w.alloc (.cells #[.string ⟨a.1.toArray⟩, .int .i64 a.2] 131) := ⟨_, rfl⟩
 have Af : Hid (Grows w wB) := ec (Aa ▸ Grows.alloc _ _)
 have hN : wB.heap[w.heap.size]? = some (.cells #[.string ⟨a.1.toArray⟩, .int .i64 a.2] 131 (0, 0)) := Aa ▸ heap_alloc_new w _
 have c0 : wB.cell? ⟨w.heap.size, 0, none⟩ = some (.string ⟨a.1.toArray⟩) := cell_of_row wB w.heap.size 0 _ 131 _ hN
 have c1 : wB.cell? ⟨w.heap.size, 1, none⟩ = some (.int .i64 a.2) := cell_of_row wB w.heap.size 1 _ 131 _ hN
 clear hN
 go_enter Tryz.func83, Tryz.ntmps83
 go_wp2_with fail
 rename_i K hK
 rw [← Aa]
 refine gE (B := [1]) rN Grows (nj wB) (Gk [.any, .val (.pointer (some ⟨w.heap.size, 0, none⟩)), .part (ez [eX [[115, 111, 117, 114, 99, 101, 32], a.1, [32, 114, 97, 110, 107, 32]], XP.int (a.2)]), .val (.pointer (some ⟨w.heap.size, 0, none⟩)), .val (.string ⟨a.1.toArray⟩), .strs ([[115, 111, 117, 114, 99, 101, 32], a.1, [32, 114, 97, 110, 107, 32]]), .part (eX [[115, 111, 117, 114, 99, 101, 32], a.1, [32, 114, 97, 110, 107, 32]]), .val (.pointer (some ⟨w.heap.size, 1, none⟩)), .val (.int .i64 a.2), .part (XP.int (a.2)), .parts [eX [[115, 111, 117, 114, 99, 101, 32], a.1, [32, 114, 97, 110, 107, 32]], XP.int (a.2)], .part (ez [eX [[115, 111, 117, 114, 99, 101, 32], a.1, [32, 114, 97, 110, 107, 32]], XP.int (a.2)])]) 1000 (by kernel_rfl) (by kernel_rfl) (eZ (by kernel_rfl)) (jh (by kernel_rfl)) (fun s w w' v h => Gk.keep s w w' v h) (Grows.drew _) ?hb (ia ⟨?_, ?_, ?_, ?_, ?_, ?_, ?_, ?_, ?_, ?_, trivial⟩) (fun _ _ _ _ h => h.elim) ?hend
 case hb =>
  intro s hs
  simp only [List.mem_cons, List.not_mem_nil, or_false] at hs
  rcases hs with rfl <;> rfl
 case hend =>
  rintro ⟨tm, df⟩ w' _ Ab hI _ Ac
  simp only at Ab
  subst Ab
  have hv := Ac 9 2 rfl
  refine hK _ _ (j0 (t := 2) Tryz.results83 rfl ⟨_, rfl, ?_, Grows.trans Af.out hI⟩)
  exact hv
 · intro ρ W b hc hf _ hI hg
   have g1 : ρ (.tmp 1) = .pointer (some ⟨w.heap.size, 0, none⟩) := hg 1 (by decide)
   refine ef (v := .pointer (some ⟨w.heap.size, 0, none⟩)) (w' := W) ?_ ⟨Grows.refl _, hI, fun d hd => by cases hd; exact rfl⟩
   clear hg hc hf
   go_simp
 · intro ρ W b hc hf _ hI hg
   have g3 : ρ (.tmp 3) = .pointer (some ⟨w.heap.size, 0, none⟩) := hg 3 (by decide)
   have d0 := Grows.cell hI c0
   refine ef (v := .string ⟨a.1.toArray⟩) (w' := W) ?_ ⟨Grows.refl _, hI, fun d hd => by cases hd; exact rfl⟩
   clear hg hc hf
   go_simp
 · intro ρ W b hc hf _ hI hg
   have k0 := hc (.string ⟨#[115, 111, 117, 114, 99, 101, 32]⟩)
   have g4 : ρ (.tmp 4) = .string ⟨a.1.toArray⟩ := hg 4 (by decide)
   have k2 := hc (.string ⟨#[32, 114, 97, 110, 107, 32]⟩)
   refine ef (v := .slice (some ⟨W.heap.size, 0, none⟩) 3 3) (w' := W.alloc (.cells #[.string ⟨#[115, 111, 117, 114, 99, 101, 32]⟩, .string ⟨(a.1).toArray⟩, .string ⟨#[32, 114, 97, 110, 107, 32]⟩] 9)) ?_ ⟨Grows.alloc _ _, Grows.trans hI (Grows.alloc _ _), fun d hd => by cases hd; exact fh W [[115, 111, 117, 114, 99, 101, 32], a.1, [32, 114, 97, 110, 107, 32]] (by unfold maxLen; simp)⟩
   clear hg hc hf
   go_simp
 · intro ρ W b hc hf _ hI hg
   have g5 : Strs Any W ([[115, 111, 117, 114, 99, 101, 32], a.1, [32, 114, 97, 110, 107, 32]]) (ρ (.tmp 5)) := hg 5 (by decide)
   have k0 := hf 73
   refine es (f := 73) (args := #[ρ (.tmp 5)]) (w' := W) ?_ (iV W [[115, 111, 117, 114, 99, 101, 32], a.1, [32, 114, 97, 110, 107, 32]] _ g5 (by simp) (by intro x hx; simp only [List.mem_cons, List.not_mem_nil, or_false] at hx; rcases hx with rfl | rfl | rfl <;> first | decide | exact h1)) ?_
   · clear hg hc hf
     go_simp
   · rintro e W' ⟨v, rfl, hv, hb⟩
     exact ⟨v, rfl, hb, Grows.trans hI hb, fun d hd => by cases hd; exact hv⟩
 · intro ρ W b hc hf _ hI hg
   have g1 : ρ (.tmp 1) = .pointer (some ⟨w.heap.size, 0, none⟩) := hg 1 (by decide)
   refine ef (v := .pointer (some ⟨w.heap.size, 1, none⟩)) (w' := W) ?_ ⟨Grows.refl _, hI, fun d hd => by cases hd; exact rfl⟩
   clear hg hc hf
   go_simp
 · intro ρ W b hc hf _ hI hg
   have g7 : ρ (.tmp 7) = .pointer (some ⟨w.heap.size, 1, none⟩) := hg 7 (by decide)
   have d0 := Grows.cell hI c1
   refine ef (v := .int .i64 a.2) (w' := W) ?_ ⟨Grows.refl _, hI, fun d hd => by cases hd; exact rfl⟩
   clear hg hc hf
   go_simp
 · intro ρ W b hc hf _ hI hg
   have g8 : ρ (.tmp 8) = .int .i64 a.2 := hg 8 (by decide)
   have k0 := hf 146
   refine es (f := 146) (args := #[.int .i64 (a.2)]) (w' := W) ?_ (nY W (a.2) h2.1 h2.2) ?_
   · clear hg hc hf
     go_simp
   · rintro e W' ⟨v, rfl, hv, hb⟩
     exact ⟨v, rfl, hb, Grows.trans hI hb, fun d hd => by cases hd; exact hv⟩
 · intro ρ W b hc hf _ hI hg
   have g6 : Tells (eX [[115, 111, 117, 114, 99, 101, 32], a.1, [32, 114, 97, 110, 107, 32]]) W (ρ (.tmp 6)) := hg 6 (by decide)
   have g9 : Tells (XP.int (a.2)) W (ρ (.tmp 9)) := hg 9 (by decide)
   have hP := fF W [eX [[115, 111, 117, 114, 99, 101, 32], a.1, [32, 114, 97, 110, 107, 32]], XP.int (a.2)] [ρ (.tmp 6), ρ (.tmp 9)] rfl (by unfold maxLen; simp) ⟨g6, g9, trivial⟩
   obtain ⟨k6, q6, e6, -, -⟩ := g6
   obtain ⟨k9, q9, e9, -, -⟩ := g9
   refine ef (v := .slice (some ⟨W.heap.size, 0, none⟩) 2 2) (w' := W.alloc (.cells #[ρ (.tmp 6), ρ (.tmp 9)] 86)) ?_ ⟨Grows.alloc _ _, Grows.trans hI (Grows.alloc _ _), fun d hd => by cases hd; exact hP⟩
   clear hg hc hf hP
   go_simp
 · intro ρ W b hc hf _ hI hg
   have Ae : Parts W [eX [[115, 111, 117, 114, 99, 101, 32], a.1, [32, 114, 97, 110, 107, 32]], XP.int (a.2)] (ρ (.tmp 10)) := hg 10 (by decide)
   have k0 := hf 70
   refine es (f := 70) (args := #[ρ (.tmp 10)]) (w' := W) ?_ (hM W [eX [[115, 111, 117, 114, 99, 101, 32], a.1, [32, 114, 97, 110, 107, 32]], XP.int (a.2)] _ Ae (by simp)) ?_
   · clear hg hc hf
     go_simp
   · rintro e W' ⟨v, rfl, hv, hb⟩
     exact ⟨v, rfl, hb, Grows.trans hI hb, fun d hd => by cases hd; exact hv⟩
 · intro ρ W b hc hf _ hI hg
   have Ad : Tells (ez [eX [[115, 111, 117, 114, 99, 101, 32], a.1, [32, 114, 97, 110, 107, 32]], XP.int (a.2)]) W (ρ (.tmp 11)) := hg 11 (by decide)
   exact ef (v := ρ (.tmp 11)) (w' := W) rfl ⟨Grows.refl _, hI, fun d hd => by cases hd; exact Ad⟩
theorem B0 (w : World) (a : fZ) (v : Value) (hv : lP Any w a v) (hfit : kB a) : Calls Tryz.prog 79 #[v] w (fp (iv XP a) w) := by
 obtain ⟨kv, vv, rfl, hx, hy⟩ := hv
 have HFit := ec hfit
 obtain ⟨pa, pc, rfl⟩ := ed hx
 obtain ⟨qa, qc, rfl⟩ := ed hy
 obtain ⟨wB, Aa⟩ : ∃ x, x = w.alloc (.cells #[.string ⟨a.name.toArray⟩, .int .i64 a.sort, .slice pa a.kinds.length pc, .slice qa a.values.length qc] 128) := ⟨_, rfl⟩
 have Ab : Hid (Grows w wB) := ec (Aa ▸ Grows.alloc _ _)
 have hN : wB.heap[w.heap.size]? = some (.cells #[.string ⟨a.name.toArray⟩, .int .i64 a.sort, .slice pa a.kinds.length pc, .slice qa a.values.length qc] 128 (0, 0)) := Aa ▸ heap_alloc_new w _
 have c0 : wB.cell? ⟨w.heap.size, 0, none⟩ = some (.string ⟨a.name.toArray⟩) := cell_of_row wB w.heap.size 0 _ 128 _ hN
 have c1 : wB.cell? ⟨w.heap.size, 1, none⟩ = some (.int .i64 a.sort) := cell_of_row wB w.heap.size 1 _ 128 _ hN
 have c2 : wB.cell? ⟨w.heap.size, 2, none⟩ = some (.slice pa a.kinds.length pc) := cell_of_row wB w.heap.size 2 _ 128 _ hN
 have c3 : wB.cell? ⟨w.heap.size, 3, none⟩ = some (.slice qa a.values.length qc) := cell_of_row wB w.heap.size 3 _ 128 _ hN
 have Am : Hid (Kd.holds (.strs a.kinds) wB (.slice pa a.kinds.length pc)) := ec (Kd.keep (k := .strs a.kinds) Ab.out.keeps hx)
 have Ap : Hid (Kd.holds (.moneys a.values) wB (.slice qa a.values.length qc)) := ec (Kd.keep (k := .moneys a.values) Ab.out.keeps hy)
 clear hN
 clear hx hy hfit
 go_enter Tryz.func79, Tryz.ntmps79
 go_wp2_with fail
 rename_i K hK
 rw [← Aa]
 refine gE (B := [1]) rN Grows (nj wB) (Gk [.any, .val (.pointer (some ⟨w.heap.size, 0, none⟩)), .part (ez [eY (a.sort) [[112, 114, 101, 100, 32], [110, 117, 109, 98, 101, 114, 32], [97, 109, 111, 117, 110, 116, 32]], some (a.name), iA (a.kinds), ey (decide (a.sort = 3)) (ez [some [32, 58, 32], fd ((a.values).map XP.money)])]), .val (.pointer (some ⟨w.heap.size, 1, none⟩)), .val (.int .i64 a.sort), .strs ([[112, 114, 101, 100, 32], [110, 117, 109, 98, 101, 114, 32], [97, 109, 111, 117, 110, 116, 32]]), .part (eY (a.sort) [[112, 114, 101, 100, 32], [110, 117, 109, 98, 101, 114, 32], [97, 109, 111, 117, 110, 116, 32]]), .val (.pointer (some ⟨w.heap.size, 0, none⟩)), .val (.string ⟨a.name.toArray⟩), .part (some (a.name)), .val (.pointer (some ⟨w.heap.size, 2, none⟩)), .strs (a.kinds), .part (iA (a.kinds)), .val (.pointer (some ⟨w.heap.size, 1, none⟩)), .val (.int .i64 a.sort), .val (.bool (decide (a.sort = 3))), .strs ([[32, 58, 32]]), .part (some [32, 58, 32]), .val (.pointer (some ⟨w.heap.size, 3, none⟩)), .moneys (a.values), .part (fd ((a.values).map XP.money)), .parts [some [32, 58, 32], fd ((a.values).map XP.money)], .part (ez [some [32, 58, 32], fd ((a.values).map XP.money)]), .part (ey (decide (a.sort = 3)) (ez [some [32, 58, 32], fd ((a.values).map XP.money)])), .parts [eY (a.sort) [[112, 114, 101, 100, 32], [110, 117, 109, 98, 101, 114, 32], [97, 109, 111, 117, 110, 116, 32]], some (a.name), iA (a.kinds), ey (decide (a.sort = 3)) (ez [some [32, 58, 32], fd ((a.values).map XP.money)])], .part (ez [eY (a.sort) [[112, 114, 101, 100, 32], [110, 117, 109, 98, 101, 114, 32], [97, 109, 111, 117, 110, 116, 32]], some (a.name), iA (a.kinds), ey (decide (a.sort = 3)) (ez [some [32, 58, 32], fd ((a.values).map XP.money)])])]) 1000 (by kernel_rfl) (by kernel_rfl) (eZ (by kernel_rfl)) (jh (by kernel_rfl)) (fun s w w' v h => Gk.keep s w w' v h) (Grows.drew _) ?hb (ia ⟨?_, ?_, ?_, ?_, ?_, ?_, ?_, ?_, ?_, ?_, ?_, ?_, ?_, ?_, ?_, ?_, ?_, ?_, ?_, ?_, ?_, ?_, ?_, ?_, trivial⟩) (fun _ _ _ _ h => h.elim) ?hend
 case hb =>
  intro s hs
  simp only [List.mem_cons, List.not_mem_nil, or_false] at hs
  rcases hs with rfl <;> rfl
 case hend =>
  rintro ⟨tm, df⟩ w' _ Ag hI _ Ah
  simp only at Ag
  subst Ag
  have hv := Ah 23 2 rfl
  refine hK _ _ (j0 (t := 2) Tryz.results79 rfl ⟨_, rfl, ?_, Grows.trans Ab.out hI⟩)
  exact hv
 · intro ρ W b hc hf _ hI hg
   have g1 : ρ (.tmp 1) = .pointer (some ⟨w.heap.size, 0, none⟩) := hg 1 (by decide)
   refine ef (v := .pointer (some ⟨w.heap.size, 1, none⟩)) (w' := W) ?_ ⟨Grows.refl _, hI, fun d hd => by cases hd; exact rfl⟩
   clear hg hc hf
   go_simp
 · intro ρ W b hc hf _ hI hg
   have g3 : ρ (.tmp 3) = .pointer (some ⟨w.heap.size, 1, none⟩) := hg 3 (by decide)
   have d0 := Grows.cell hI c1
   refine ef (v := .int .i64 a.sort) (w' := W) ?_ ⟨Grows.refl _, hI, fun d hd => by cases hd; exact rfl⟩
   clear hg hc hf
   go_simp
 · intro ρ W b hc hf _ hI hg
   have k0 := hc (.string ⟨#[112, 114, 101, 100, 32]⟩)
   have k1 := hc (.string ⟨#[110, 117, 109, 98, 101, 114, 32]⟩)
   have k2 := hc (.string ⟨#[97, 109, 111, 117, 110, 116, 32]⟩)
   refine ef (v := .slice (some ⟨W.heap.size, 0, none⟩) 3 3) (w' := W.alloc (.cells #[.string ⟨#[112, 114, 101, 100, 32]⟩, .string ⟨#[110, 117, 109, 98, 101, 114, 32]⟩, .string ⟨#[97, 109, 111, 117, 110, 116, 32]⟩] 9)) ?_ ⟨Grows.alloc _ _, Grows.trans hI (Grows.alloc _ _), fun d hd => by cases hd; exact fh W [[112, 114, 101, 100, 32], [110, 117, 109, 98, 101, 114, 32], [97, 109, 111, 117, 110, 116, 32]] (by unfold maxLen; simp)⟩
   clear hg hc hf
   go_simp
 · intro ρ W b hc hf _ hI hg
   have g4 : ρ (.tmp 4) = .int .i64 a.sort := hg 4 (by decide)
   have g5 : Strs Any W ([[112, 114, 101, 100, 32], [110, 117, 109, 98, 101, 114, 32], [97, 109, 111, 117, 110, 116, 32]]) (ρ (.tmp 5)) := hg 5 (by decide)
   have k0 := hf 138
   refine es (f := 138) (args := #[.int .i64 (a.sort), ρ (.tmp 5)]) (w' := W) ?_ (sx W (a.sort) HFit.out.sort.1 HFit.out.sort.2 [[112, 114, 101, 100, 32], [110, 117, 109, 98, 101, 114, 32], [97, 109, 111, 117, 110, 116, 32]] _ g5 (by simp) (by intro x hx; simp only [List.mem_cons, List.not_mem_nil, or_false] at hx; rcases hx with rfl | rfl | rfl <;> decide)) ?_
   · clear hg hc hf
     go_simp
   · rintro e W' ⟨v, rfl, hv, hb⟩
     exact ⟨v, rfl, hb, Grows.trans hI hb, fun d hd => by cases hd; exact hv⟩
 · intro ρ W b hc hf _ hI hg
   have g1 : ρ (.tmp 1) = .pointer (some ⟨w.heap.size, 0, none⟩) := hg 1 (by decide)
   refine ef (v := .pointer (some ⟨w.heap.size, 0, none⟩)) (w' := W) ?_ ⟨Grows.refl _, hI, fun d hd => by cases hd; exact rfl⟩
   clear hg hc hf
   go_simp
 · intro ρ W b hc hf _ hI hg
   have g7 : ρ (.tmp 7) = .pointer (some ⟨w.heap.size, 0, none⟩) := hg 7 (by decide)
   have d0 := Grows.cell hI c0
   refine ef (v := .string ⟨a.name.toArray⟩) (w' := W) ?_ ⟨Grows.refl _, hI, fun d hd => by cases hd; exact rfl⟩
   clear hg hc hf
   go_simp
 · intro ρ W b hc hf _ hI hg
   have g8 : ρ (.tmp 8) = .string ⟨a.name.toArray⟩ := hg 8 (by decide)
   have k0 := hf 139
   refine es (f := 139) (args := #[.string ⟨(a.name).toArray⟩]) (w' := W) ?_ (nS W (a.name) HFit.out.name) ?_
   · clear hg hc hf
     go_simp
   · rintro e W' ⟨v, rfl, hv, hb⟩
     exact ⟨v, rfl, hb, Grows.trans hI hb, fun d hd => by cases hd; exact hv⟩
 · intro ρ W b hc hf _ hI hg
   have g1 : ρ (.tmp 1) = .pointer (some ⟨w.heap.size, 0, none⟩) := hg 1 (by decide)
   refine ef (v := .pointer (some ⟨w.heap.size, 2, none⟩)) (w' := W) ?_ ⟨Grows.refl _, hI, fun d hd => by cases hd; exact rfl⟩
   clear hg hc hf
   go_simp
 · intro ρ W b hc hf _ hI hg
   have Ax : ρ (.tmp 10) = .pointer (some ⟨w.heap.size, 2, none⟩) := hg 10 (by decide)
   have d0 := Grows.cell hI c2
   refine ef (v := .slice pa a.kinds.length pc) (w' := W) ?_ ⟨Grows.refl _, hI, fun d hd => by cases hd; exact (Kd.keep (k := .strs (a.kinds)) (Grows.keeps hI) Am.out)⟩
   clear hg hc hf
   go_simp
 · intro ρ W b hc hf _ hI hg
   have Aj : Strs Any W (a.kinds) (ρ (.tmp 11)) := hg 11 (by decide)
   have k0 := hf 140
   refine es (f := 140) (args := #[ρ (.tmp 11)]) (w' := W) ?_ (kY W (a.kinds) _ Aj HFit.out.kinds) ?_
   · clear hg hc hf
     go_simp
   · rintro e W' ⟨v, rfl, hv, hb⟩
     exact ⟨v, rfl, hb, Grows.trans hI hb, fun d hd => by cases hd; exact hv⟩
 · intro ρ W b hc hf _ hI hg
   have g1 : ρ (.tmp 1) = .pointer (some ⟨w.heap.size, 0, none⟩) := hg 1 (by decide)
   refine ef (v := .pointer (some ⟨w.heap.size, 1, none⟩)) (w' := W) ?_ ⟨Grows.refl _, hI, fun d hd => by cases hd; exact rfl⟩
   clear hg hc hf
   go_simp
 · intro ρ W b hc hf _ hI hg
   have At : ρ (.tmp 13) = .pointer (some ⟨w.heap.size, 1, none⟩) := hg 13 (by decide)
   have d0 := Grows.cell hI c1
   refine ef (v := .int .i64 a.sort) (w' := W) ?_ ⟨Grows.refl _, hI, fun d hd => by cases hd; exact rfl⟩
   clear hg hc hf
   go_simp
 · intro ρ W b hc hf _ hI hg
   have Ar : ρ (.tmp 14) = .int .i64 a.sort := hg 14 (by decide)
   have k0 := hc (.int .i64 3)
   refine ef (v := .bool (decide (a.sort = 3))) (w' := W) ?_ ⟨Grows.refl _, hI, fun d hd => by cases hd; exact rfl⟩
   clear hg hc hf
   go_simp
   all_goals first | rfl | (simp [bne]; done)
 · intro ρ W b hc hf _ hI hg
   have k0 := hc (.string ⟨#[32, 58, 32]⟩)
   refine ef (v := .slice (some ⟨W.heap.size, 0, none⟩) 1 1) (w' := W.alloc (.cells #[.string ⟨#[32, 58, 32]⟩] 9)) ?_ ⟨Grows.alloc _ _, Grows.trans hI (Grows.alloc _ _), fun d hd => by cases hd; exact fh W [[32, 58, 32]] (by unfold maxLen; simp)⟩
   clear hg hc hf
   go_simp
 · intro ρ W b hc hf _ hI hg
   have Aq : Strs Any W ([[32, 58, 32]]) (ρ (.tmp 16)) := hg 16 (by decide)
   have k0 := hf 73
   refine es (f := 73) (args := #[ρ (.tmp 16)]) (w' := W) ?_ (fG W [32, 58, 32] _ Aq (by decide)) ?_
   · clear hg hc hf
     go_simp
   · rintro e W' ⟨v, rfl, hv, hb⟩
     exact ⟨v, rfl, hb, Grows.trans hI hb, fun d hd => by cases hd; exact hv⟩
 · intro ρ W b hc hf _ hI hg
   have g1 : ρ (.tmp 1) = .pointer (some ⟨w.heap.size, 0, none⟩) := hg 1 (by decide)
   refine ef (v := .pointer (some ⟨w.heap.size, 3, none⟩)) (w' := W) ?_ ⟨Grows.refl _, hI, fun d hd => by cases hd; exact rfl⟩
   clear hg hc hf
   go_simp
 · intro ρ W b hc hf _ hI hg
   have As : ρ (.tmp 18) = .pointer (some ⟨w.heap.size, 3, none⟩) := hg 18 (by decide)
   have d0 := Grows.cell hI c3
   refine ef (v := .slice qa a.values.length qc) (w' := W) ?_ ⟨Grows.refl _, hI, fun d hd => by cases hd; exact (Kd.keep (k := .moneys (a.values)) (Grows.keeps hI) Ap.out)⟩
   clear hg hc hf
   go_simp
 · intro ρ W b hc hf _ hI hg
   have An : Moneys Any W (a.values) (ρ (.tmp 19)) := hg 19 (by decide)
   have k1 := hf 142
   have k0 := hf 141
   refine es (f := 141) (args := #[ρ (.tmp 19), .func (.func 142) #[] #[]]) (w' := W) ?_ (rl W (a.values) _ An HFit.out.values) ?_
   · clear hg hc hf
     go_simp
   · rintro e W' ⟨v, rfl, hv, hb⟩
     exact ⟨v, rfl, hb, Grows.trans hI hb, fun d hd => by cases hd; exact hv⟩
 · intro ρ W b hc hf _ hI hg
   have Af : Tells (some [32, 58, 32]) W (ρ (.tmp 17)) := hg 17 (by decide)
   have Ad : Tells (fd ((a.values).map XP.money)) W (ρ (.tmp 20)) := hg 20 (by decide)
   have hP := fF W [some [32, 58, 32], fd ((a.values).map XP.money)] [ρ (.tmp 17), ρ (.tmp 20)] rfl (by unfold maxLen; simp) ⟨Af, Ad, trivial⟩
   obtain ⟨AH, AE, Az, -, -⟩ := Af
   obtain ⟨AA, Au, Aw, -, -⟩ := Ad
   refine ef (v := .slice (some ⟨W.heap.size, 0, none⟩) 2 2) (w' := W.alloc (.cells #[ρ (.tmp 17), ρ (.tmp 20)] 86)) ?_ ⟨Grows.alloc _ _, Grows.trans hI (Grows.alloc _ _), fun d hd => by cases hd; exact hP⟩
   clear hg hc hf hP
   go_simp
 · intro ρ W b hc hf _ hI hg
   have Ai : Parts W [some [32, 58, 32], fd ((a.values).map XP.money)] (ρ (.tmp 21)) := hg 21 (by decide)
   have k0 := hf 70
   refine es (f := 70) (args := #[ρ (.tmp 21)]) (w' := W) ?_ (hM W [some [32, 58, 32], fd ((a.values).map XP.money)] _ Ai (by simp)) ?_
   · clear hg hc hf
     go_simp
   · rintro e W' ⟨v, rfl, hv, hb⟩
     exact ⟨v, rfl, hb, Grows.trans hI hb, fun d hd => by cases hd; exact hv⟩
 · intro ρ W b hc hf _ hI hg
   have AC : ρ (.tmp 15) = .bool (decide (a.sort = 3)) := hg 15 (by decide)
   have Ak : Tells (ez [some [32, 58, 32], fd ((a.values).map XP.money)]) W (ρ (.tmp 22)) := hg 22 (by decide)
   have k0 := hf 71
   refine es (f := 71) (args := #[.bool (decide (a.sort = 3)), ρ (.tmp 22)]) (w' := W) ?_ (iw W (decide (a.sort = 3)) (ez [some [32, 58, 32], fd ((a.values).map XP.money)]) _ Ak) ?_
   · clear hg hc hf
     go_simp
   · rintro e W' ⟨v, rfl, hv, hb⟩
     exact ⟨v, rfl, hb, Grows.trans hI hb, fun d hd => by cases hd; exact hv⟩
 · intro ρ W b hc hf _ hI hg
   have g6 : Tells (eY (a.sort) [[112, 114, 101, 100, 32], [110, 117, 109, 98, 101, 114, 32], [97, 109, 111, 117, 110, 116, 32]]) W (ρ (.tmp 6)) := hg 6 (by decide)
   have g9 : Tells (some (a.name)) W (ρ (.tmp 9)) := hg 9 (by decide)
   have Ac : Tells (iA (a.kinds)) W (ρ (.tmp 12)) := hg 12 (by decide)
   have Ae : Tells (ey (decide (a.sort = 3)) (ez [some [32, 58, 32], fd ((a.values).map XP.money)])) W (ρ (.tmp 23)) := hg 23 (by decide)
   have hP := fF W [eY (a.sort) [[112, 114, 101, 100, 32], [110, 117, 109, 98, 101, 114, 32], [97, 109, 111, 117, 110, 116, 32]], some (a.name), iA (a.kinds), ey (decide (a.sort = 3)) (ez [some [32, 58, 32], fd ((a.values).map XP.money)])] [ρ (.tmp 6), ρ (.tmp 9), ρ (.tmp 12), ρ (.tmp 23)] rfl (by unfold maxLen; simp) ⟨g6, g9, Ac, Ae, trivial⟩
   obtain ⟨k6, q6, e6, -, -⟩ := g6
   obtain ⟨k9, q9, e9, -, -⟩ := g9
   obtain ⟨AB, AD, AG, -, -⟩ := Ac
   obtain ⟨AF, Ay, Av, -, -⟩ := Ae
   refine ef (v := .slice (some ⟨W.heap.size, 0, none⟩) 4 4) (w' := W.alloc (.cells #[ρ (.tmp 6), ρ (.tmp 9), ρ (.tmp 12), ρ (.tmp 23)] 86)) ?_ ⟨Grows.alloc _ _, Grows.trans hI (Grows.alloc _ _), fun d hd => by cases hd; exact hP⟩
   clear hg hc hf hP
   go_simp
 · intro ρ W b hc hf _ hI hg
   have Ao : Parts W [eY (a.sort) [[112, 114, 101, 100, 32], [110, 117, 109, 98, 101, 114, 32], [97, 109, 111, 117, 110, 116, 32]], some (a.name), iA (a.kinds), ey (decide (a.sort = 3)) (ez [some [32, 58, 32], fd ((a.values).map XP.money)])] (ρ (.tmp 24)) := hg 24 (by decide)
   have k0 := hf 70
   refine es (f := 70) (args := #[ρ (.tmp 24)]) (w' := W) ?_ (hM W [eY (a.sort) [[112, 114, 101, 100, 32], [110, 117, 109, 98, 101, 114, 32], [97, 109, 111, 117, 110, 116, 32]], some (a.name), iA (a.kinds), ey (decide (a.sort = 3)) (ez [some [32, 58, 32], fd ((a.values).map XP.money)])] _ Ao (by simp)) ?_
   · clear hg hc hf
     go_simp
   · rintro e W' ⟨v, rfl, hv, hb⟩
     exact ⟨v, rfl, hb, Grows.trans hI hb, fun d hd => by cases hd; exact hv⟩
 · intro ρ W b hc hf _ hI hg
   have Al : Tells (ez [eY (a.sort) [[112, 114, 101, 100, 32], [110, 117, 109, 98, 101, 114, 32], [97, 109, 111, 117, 110, 116, 32]], some (a.name), iA (a.kinds), ey (decide (a.sort = 3)) (ez [some [32, 58, 32], fd ((a.values).map XP.money)])]) W (ρ (.tmp 25)) := hg 25 (by decide)
   exact ef (v := ρ (.tmp 25)) (w' := W) rfl ⟨Grows.refl _, hI, fun d hd => by cases hd; exact Al⟩
theorem zt (w : World) (a : gx) (v : Value) (hv : sT Any w a v) (hfit : kn a) : Calls Tryz.prog 89 #[v] w (fp (gV XP a) w) := by
 obtain ⟨pv, rfl, hx⟩ := hv
 have HFit := ec hfit
 obtain ⟨pa, pc, rfl⟩ := ed hx
 obtain ⟨wB, Aa⟩ : ∃ x, x = w.alloc (.cells #[.string ⟨a.name.toArray⟩, .string ⟨a.kind.toArray⟩, .slice pa a.preds.length pc, .bool a.hasCap, .int .i64 a.cap] 135) := ⟨_, rfl⟩
 have Ag : Hid (Grows w wB) := ec (Aa ▸ Grows.alloc _ _)
 have hN : wB.heap[w.heap.size]? = some (.cells #[.string ⟨a.name.toArray⟩, .string ⟨a.kind.toArray⟩, .slice pa a.preds.length pc, .bool a.hasCap, .int .i64 a.cap] 135 (0, 0)) := Aa ▸ heap_alloc_new w _
 have c0 : wB.cell? ⟨w.heap.size, 0, none⟩ = some (.string ⟨a.name.toArray⟩) := cell_of_row wB w.heap.size 0 _ 135 _ hN
 have c1 : wB.cell? ⟨w.heap.size, 1, none⟩ = some (.string ⟨a.kind.toArray⟩) := cell_of_row wB w.heap.size 1 _ 135 _ hN
 have c2 : wB.cell? ⟨w.heap.size, 2, none⟩ = some (.slice pa a.preds.length pc) := cell_of_row wB w.heap.size 2 _ 135 _ hN
 have c3 : wB.cell? ⟨w.heap.size, 3, none⟩ = some (.bool a.hasCap) := cell_of_row wB w.heap.size 3 _ 135 _ hN
 have c4 : wB.cell? ⟨w.heap.size, 4, none⟩ = some (.int .i64 a.cap) := cell_of_row wB w.heap.size 4 _ 135 _ hN
 have An : Hid (Kd.holds (.strs a.preds) wB (.slice pa a.preds.length pc)) := ec (Kd.keep (k := .strs a.preds) Ag.out.keeps hx)
 clear hN
 clear hx hfit
 go_enter Tryz.func89, Tryz.ntmps89
 go_wp2_with fail
 rename_i K hK
 rw [← Aa]
 refine gE (B := [1]) rN Grows (nj wB) (Gk [.any, .val (.pointer (some ⟨w.heap.size, 0, none⟩)), .part (ez [eX [[116, 111, 116, 97, 108, 32], a.name, [40], a.kind, [41, 32, 58, 32]], hU (a.preds), ey (a.hasCap) (ez [some [32, 99, 97, 112, 32], XP.money (a.cap)])]), .val (.pointer (some ⟨w.heap.size, 0, none⟩)), .val (.string ⟨a.name.toArray⟩), .val (.pointer (some ⟨w.heap.size, 1, none⟩)), .val (.string ⟨a.kind.toArray⟩), .strs ([[116, 111, 116, 97, 108, 32], a.name, [40], a.kind, [41, 32, 58, 32]]), .part (eX [[116, 111, 116, 97, 108, 32], a.name, [40], a.kind, [41, 32, 58, 32]]), .val (.pointer (some ⟨w.heap.size, 2, none⟩)), .strs (a.preds), .part (hU (a.preds)), .val (.pointer (some ⟨w.heap.size, 3, none⟩)), .val (.bool a.hasCap), .strs ([[32, 99, 97, 112, 32]]), .part (some [32, 99, 97, 112, 32]), .val (.pointer (some ⟨w.heap.size, 4, none⟩)), .val (.int .i64 a.cap), .part (XP.money (a.cap)), .parts [some [32, 99, 97, 112, 32], XP.money (a.cap)], .part (ez [some [32, 99, 97, 112, 32], XP.money (a.cap)]), .part (ey (a.hasCap) (ez [some [32, 99, 97, 112, 32], XP.money (a.cap)])), .parts [eX [[116, 111, 116, 97, 108, 32], a.name, [40], a.kind, [41, 32, 58, 32]], hU (a.preds), ey (a.hasCap) (ez [some [32, 99, 97, 112, 32], XP.money (a.cap)])], .part (ez [eX [[116, 111, 116, 97, 108, 32], a.name, [40], a.kind, [41, 32, 58, 32]], hU (a.preds), ey (a.hasCap) (ez [some [32, 99, 97, 112, 32], XP.money (a.cap)])])]) 1000 (by kernel_rfl) (by kernel_rfl) (eZ (by kernel_rfl)) (jh (by kernel_rfl)) (fun s w w' v h => Gk.keep s w w' v h) (Grows.drew _) ?hb (ia ⟨?_, ?_, ?_, ?_, ?_, ?_, ?_, ?_, ?_, ?_, ?_, ?_, ?_, ?_, ?_, ?_, ?_, ?_, ?_, ?_, ?_, ?_, trivial⟩) (fun _ _ _ _ h => h.elim) ?hend
 case hb =>
  intro s hs
  simp only [List.mem_cons, List.not_mem_nil, or_false] at hs
  rcases hs with rfl <;> rfl
 case hend =>
  rintro ⟨tm, df⟩ w' _ Ae hI _ Ah
  simp only at Ae
  subst Ae
  have hv := Ah 21 2 rfl
  refine hK _ _ (j0 (t := 2) Tryz.results89 rfl ⟨_, rfl, ?_, Grows.trans Ag.out hI⟩)
  exact hv
 · intro ρ W b hc hf _ hI hg
   have g1 : ρ (.tmp 1) = .pointer (some ⟨w.heap.size, 0, none⟩) := hg 1 (by decide)
   refine ef (v := .pointer (some ⟨w.heap.size, 0, none⟩)) (w' := W) ?_ ⟨Grows.refl _, hI, fun d hd => by cases hd; exact rfl⟩
   clear hg hc hf
   go_simp
 · intro ρ W b hc hf _ hI hg
   have g3 : ρ (.tmp 3) = .pointer (some ⟨w.heap.size, 0, none⟩) := hg 3 (by decide)
   have d0 := Grows.cell hI c0
   refine ef (v := .string ⟨a.name.toArray⟩) (w' := W) ?_ ⟨Grows.refl _, hI, fun d hd => by cases hd; exact rfl⟩
   clear hg hc hf
   go_simp
 · intro ρ W b hc hf _ hI hg
   have g1 : ρ (.tmp 1) = .pointer (some ⟨w.heap.size, 0, none⟩) := hg 1 (by decide)
   refine ef (v := .pointer (some ⟨w.heap.size, 1, none⟩)) (w' := W) ?_ ⟨Grows.refl _, hI, fun d hd => by cases hd; exact rfl⟩
   clear hg hc hf
   go_simp
 · intro ρ W b hc hf _ hI hg
   have g5 : ρ (.tmp 5) = .pointer (some ⟨w.heap.size, 1, none⟩) := hg 5 (by decide)
   have d0 := Grows.cell hI c1
   refine ef (v := .string ⟨a.kind.toArray⟩) (w' := W) ?_ ⟨Grows.refl _, hI, fun d hd => by cases hd; exact rfl⟩
   clear hg hc hf
   go_simp
 · intro ρ W b hc hf _ hI hg
   have k0 := hc (.string ⟨#[116, 111, 116, 97, 108, 32]⟩)
   have g4 : ρ (.tmp 4) = .string ⟨a.name.toArray⟩ := hg 4 (by decide)
   have k2 := hc (.string ⟨#[40]⟩)
   have g6 : ρ (.tmp 6) = .string ⟨a.kind.toArray⟩ := hg 6 (by decide)
   have k4 := hc (.string ⟨#[41, 32, 58, 32]⟩)
   refine ef (v := .slice (some ⟨W.heap.size, 0, none⟩) 5 5) (w' := W.alloc (.cells #[.string ⟨#[116, 111, 116, 97, 108, 32]⟩, .string ⟨(a.name).toArray⟩, .string ⟨#[40]⟩, .string ⟨(a.kind).toArray⟩, .string ⟨#[41, 32, 58, 32]⟩] 9)) ?_ ⟨Grows.alloc _ _, Grows.trans hI (Grows.alloc _ _), fun d hd => by cases hd; exact fh W [[116, 111, 116, 97, 108, 32], a.name, [40], a.kind, [41, 32, 58, 32]] (by unfold maxLen; simp)⟩
   clear hg hc hf
   go_simp
 · intro ρ W b hc hf _ hI hg
   have g7 : Strs Any W ([[116, 111, 116, 97, 108, 32], a.name, [40], a.kind, [41, 32, 58, 32]]) (ρ (.tmp 7)) := hg 7 (by decide)
   have k0 := hf 73
   refine es (f := 73) (args := #[ρ (.tmp 7)]) (w' := W) ?_ (iV W [[116, 111, 116, 97, 108, 32], a.name, [40], a.kind, [41, 32, 58, 32]] _ g7 (by simp) (by intro x hx; simp only [List.mem_cons, List.not_mem_nil, or_false] at hx; rcases hx with rfl | rfl | rfl | rfl | rfl <;> first | decide | exact HFit.out.name | exact HFit.out.kind)) ?_
   · clear hg hc hf
     go_simp
   · rintro e W' ⟨v, rfl, hv, hb⟩
     exact ⟨v, rfl, hb, Grows.trans hI hb, fun d hd => by cases hd; exact hv⟩
 · intro ρ W b hc hf _ hI hg
   have g1 : ρ (.tmp 1) = .pointer (some ⟨w.heap.size, 0, none⟩) := hg 1 (by decide)
   refine ef (v := .pointer (some ⟨w.heap.size, 2, none⟩)) (w' := W) ?_ ⟨Grows.refl _, hI, fun d hd => by cases hd; exact rfl⟩
   clear hg hc hf
   go_simp
 · intro ρ W b hc hf _ hI hg
   have g9 : ρ (.tmp 9) = .pointer (some ⟨w.heap.size, 2, none⟩) := hg 9 (by decide)
   have d0 := Grows.cell hI c2
   refine ef (v := .slice pa a.preds.length pc) (w' := W) ?_ ⟨Grows.refl _, hI, fun d hd => by cases hd; exact (Kd.keep (k := .strs (a.preds)) (Grows.keeps hI) An.out)⟩
   clear hg hc hf
   go_simp
 · intro ρ W b hc hf _ hI hg
   have Am : Strs Any W (a.preds) (ρ (.tmp 10)) := hg 10 (by decide)
   have k0 := hf 144
   refine es (f := 144) (args := #[ρ (.tmp 10)]) (w' := W) ?_ (oo W (a.preds) _ Am HFit.out.preds) ?_
   · clear hg hc hf
     go_simp
   · rintro e W' ⟨v, rfl, hv, hb⟩
     exact ⟨v, rfl, hb, Grows.trans hI hb, fun d hd => by cases hd; exact hv⟩
 · intro ρ W b hc hf _ hI hg
   have g1 : ρ (.tmp 1) = .pointer (some ⟨w.heap.size, 0, none⟩) := hg 1 (by decide)
   refine ef (v := .pointer (some ⟨w.heap.size, 3, none⟩)) (w' := W) ?_ ⟨Grows.refl _, hI, fun d hd => by cases hd; exact rfl⟩
   clear hg hc hf
   go_simp
 · intro ρ W b hc hf _ hI hg
   have Ap : ρ (.tmp 12) = .pointer (some ⟨w.heap.size, 3, none⟩) := hg 12 (by decide)
   have d0 := Grows.cell hI c3
   refine ef (v := .bool a.hasCap) (w' := W) ?_ ⟨Grows.refl _, hI, fun d hd => by cases hd; exact rfl⟩
   clear hg hc hf
   go_simp
 · intro ρ W b hc hf _ hI hg
   have k0 := hc (.string ⟨#[32, 99, 97, 112, 32]⟩)
   refine ef (v := .slice (some ⟨W.heap.size, 0, none⟩) 1 1) (w' := W.alloc (.cells #[.string ⟨#[32, 99, 97, 112, 32]⟩] 9)) ?_ ⟨Grows.alloc _ _, Grows.trans hI (Grows.alloc _ _), fun d hd => by cases hd; exact fh W [[32, 99, 97, 112, 32]] (by unfold maxLen; simp)⟩
   clear hg hc hf
   go_simp
 · intro ρ W b hc hf _ hI hg
   have Ai : Strs Any W ([[32, 99, 97, 112, 32]]) (ρ (.tmp 14)) := hg 14 (by decide)
   have k0 := hf 73
   refine es (f := 73) (args := #[ρ (.tmp 14)]) (w' := W) ?_ (fG W [32, 99, 97, 112, 32] _ Ai (by decide)) ?_
   · clear hg hc hf
     go_simp
   · rintro e W' ⟨v, rfl, hv, hb⟩
     exact ⟨v, rfl, hb, Grows.trans hI hb, fun d hd => by cases hd; exact hv⟩
 · intro ρ W b hc hf _ hI hg
   have g1 : ρ (.tmp 1) = .pointer (some ⟨w.heap.size, 0, none⟩) := hg 1 (by decide)
   refine ef (v := .pointer (some ⟨w.heap.size, 4, none⟩)) (w' := W) ?_ ⟨Grows.refl _, hI, fun d hd => by cases hd; exact rfl⟩
   clear hg hc hf
   go_simp
 · intro ρ W b hc hf _ hI hg
   have AE : ρ (.tmp 16) = .pointer (some ⟨w.heap.size, 4, none⟩) := hg 16 (by decide)
   have d0 := Grows.cell hI c4
   refine ef (v := .int .i64 a.cap) (w' := W) ?_ ⟨Grows.refl _, hI, fun d hd => by cases hd; exact rfl⟩
   clear hg hc hf
   go_simp
 · intro ρ W b hc hf _ hI hg
   have As : ρ (.tmp 17) = .int .i64 a.cap := hg 17 (by decide)
   have k0 := hf 142
   refine es (f := 142) (args := #[.int .i64 (a.cap)]) (w' := W) ?_ (lk W (a.cap)) ?_
   · clear hg hc hf
     go_simp
   · rintro e W' ⟨v, rfl, hv, hb⟩
     exact ⟨v, rfl, hb, Grows.trans hI hb, fun d hd => by cases hd; exact hv⟩
 · intro ρ W b hc hf _ hI hg
   have Af : Tells (some [32, 99, 97, 112, 32]) W (ρ (.tmp 15)) := hg 15 (by decide)
   have Ad : Tells (XP.money (a.cap)) W (ρ (.tmp 18)) := hg 18 (by decide)
   have hP := fF W [some [32, 99, 97, 112, 32], XP.money (a.cap)] [ρ (.tmp 15), ρ (.tmp 18)] rfl (by unfold maxLen; simp) ⟨Af, Ad, trivial⟩
   obtain ⟨Ax, Aw, AC, -, -⟩ := Af
   obtain ⟨Ar, AA, At, -, -⟩ := Ad
   refine ef (v := .slice (some ⟨W.heap.size, 0, none⟩) 2 2) (w' := W.alloc (.cells #[ρ (.tmp 15), ρ (.tmp 18)] 86)) ?_ ⟨Grows.alloc _ _, Grows.trans hI (Grows.alloc _ _), fun d hd => by cases hd; exact hP⟩
   clear hg hc hf hP
   go_simp
 · intro ρ W b hc hf _ hI hg
   have Ao : Parts W [some [32, 99, 97, 112, 32], XP.money (a.cap)] (ρ (.tmp 19)) := hg 19 (by decide)
   have k0 := hf 70
   refine es (f := 70) (args := #[ρ (.tmp 19)]) (w' := W) ?_ (hM W [some [32, 99, 97, 112, 32], XP.money (a.cap)] _ Ao (by simp)) ?_
   · clear hg hc hf
     go_simp
   · rintro e W' ⟨v, rfl, hv, hb⟩
     exact ⟨v, rfl, hb, Grows.trans hI hb, fun d hd => by cases hd; exact hv⟩
 · intro ρ W b hc hf _ hI hg
   have Au : ρ (.tmp 13) = .bool a.hasCap := hg 13 (by decide)
   have Aj : Tells (ez [some [32, 99, 97, 112, 32], XP.money (a.cap)]) W (ρ (.tmp 20)) := hg 20 (by decide)
   have k0 := hf 71
   refine es (f := 71) (args := #[.bool (a.hasCap), ρ (.tmp 20)]) (w' := W) ?_ (iw W (a.hasCap) (ez [some [32, 99, 97, 112, 32], XP.money (a.cap)]) _ Aj) ?_
   · clear hg hc hf
     go_simp
   · rintro e W' ⟨v, rfl, hv, hb⟩
     exact ⟨v, rfl, hb, Grows.trans hI hb, fun d hd => by cases hd; exact hv⟩
 · intro ρ W b hc hf _ hI hg
   have g8 : Tells (eX [[116, 111, 116, 97, 108, 32], a.name, [40], a.kind, [41, 32, 58, 32]]) W (ρ (.tmp 8)) := hg 8 (by decide)
   have Ac : Tells (hU (a.preds)) W (ρ (.tmp 11)) := hg 11 (by decide)
   have Ab : Tells (ey (a.hasCap) (ez [some [32, 99, 97, 112, 32], XP.money (a.cap)])) W (ρ (.tmp 21)) := hg 21 (by decide)
   have hP := fF W [eX [[116, 111, 116, 97, 108, 32], a.name, [40], a.kind, [41, 32, 58, 32]], hU (a.preds), ey (a.hasCap) (ez [some [32, 99, 97, 112, 32], XP.money (a.cap)])] [ρ (.tmp 8), ρ (.tmp 11), ρ (.tmp 21)] rfl (by unfold maxLen; simp) ⟨g8, Ac, Ab, trivial⟩
   obtain ⟨k8, q8, e8, -, -⟩ := g8
   obtain ⟨Av, Aq, AD, -, -⟩ := Ac
   obtain ⟨Az, Ay, AB, -, -⟩ := Ab
   refine ef (v := .slice (some ⟨W.heap.size, 0, none⟩) 3 3) (w' := W.alloc (.cells #[ρ (.tmp 8), ρ (.tmp 11), ρ (.tmp 21)] 86)) ?_ ⟨Grows.alloc _ _, Grows.trans hI (Grows.alloc _ _), fun d hd => by cases hd; exact hP⟩
   clear hg hc hf hP
   go_simp
 · intro ρ W b hc hf _ hI hg
   have Ak : Parts W [eX [[116, 111, 116, 97, 108, 32], a.name, [40], a.kind, [41, 32, 58, 32]], hU (a.preds), ey (a.hasCap) (ez [some [32, 99, 97, 112, 32], XP.money (a.cap)])] (ρ (.tmp 22)) := hg 22 (by decide)
   have k0 := hf 70
   refine es (f := 70) (args := #[ρ (.tmp 22)]) (w' := W) ?_ (hM W [eX [[116, 111, 116, 97, 108, 32], a.name, [40], a.kind, [41, 32, 58, 32]], hU (a.preds), ey (a.hasCap) (ez [some [32, 99, 97, 112, 32], XP.money (a.cap)])] _ Ak (by simp)) ?_
   · clear hg hc hf
     go_simp
   · rintro e W' ⟨v, rfl, hv, hb⟩
     exact ⟨v, rfl, hb, Grows.trans hI hb, fun d hd => by cases hd; exact hv⟩
 · intro ρ W b hc hf _ hI hg
   have Al : Tells (ez [eX [[116, 111, 116, 97, 108, 32], a.name, [40], a.kind, [41, 32, 58, 32]], hU (a.preds), ey (a.hasCap) (ez [some [32, 99, 97, 112, 32], XP.money (a.cap)])]) W (ρ (.tmp 23)) := hg 23 (by decide)
   exact ef (v := ρ (.tmp 23)) (w' := W) rfl ⟨Grows.refl _, hI, fun d hd => by cases hd; exact Al⟩
end Go.Proofs.YtbpphlmakmeoaaaGreatDoor.Sy
namespace Go.Proofs.YtbpphlmakmeoaaaGreatDoor.Sy
open Go.RowKit
theorem zU (w : World) (a : gI) (v : Value) (hv : vW Any w a v) (hfit : lr a) : Calls Tryz.prog 85 #[v] w (fp (it XP a) w) := by
 obtain ⟨bv, av, rfl, hx, hy⟩ := hv
 have HFit := ec hfit
 obtain ⟨pa, pc, rfl⟩ := ed hx
 obtain ⟨qa, qc, rfl⟩ := ed hy
 obtain ⟨wB, Aa⟩ : ∃ x, x = w.alloc (.cells #[.string ⟨a.name.toArray⟩, .string ⟨a.source.toArray⟩, .int .i64 a.day, .int .i64 a.till, .slice pa a.body.length pc, .int .i64 a.arrow, .bool a.head.neg, .string ⟨a.head.pred.toArray⟩, .slice qa a.head.args.length qc, .bool a.head.hasValue, .int .i64 a.head.value] 49) := ⟨_, rfl⟩
 have Ab : Hid (Grows w wB) := ec (Aa ▸ Grows.alloc _ _)
 have hN : wB.heap[w.heap.size]? = some (.cells #[.string ⟨a.name.toArray⟩, .string ⟨a.source.toArray⟩, .int .i64 a.day, .int .i64 a.till, .slice pa a.body.length pc, .int .i64 a.arrow, .bool a.head.neg, .string ⟨a.head.pred.toArray⟩, .slice qa a.head.args.length qc, .bool a.head.hasValue, .int .i64 a.head.value] 49 (0, 0)) := Aa ▸ heap_alloc_new w _
 have c0 : wB.cell? ⟨w.heap.size, 0, none⟩ = some (.string ⟨a.name.toArray⟩) := cell_of_row wB w.heap.size 0 _ 49 _ hN
 have c1 : wB.cell? ⟨w.heap.size, 1, none⟩ = some (.string ⟨a.source.toArray⟩) := cell_of_row wB w.heap.size 1 _ 49 _ hN
 have c2 : wB.cell? ⟨w.heap.size, 2, none⟩ = some (.int .i64 a.day) := cell_of_row wB w.heap.size 2 _ 49 _ hN
 have c3 : wB.cell? ⟨w.heap.size, 3, none⟩ = some (.int .i64 a.till) := cell_of_row wB w.heap.size 3 _ 49 _ hN
 have c4 : wB.cell? ⟨w.heap.size, 4, none⟩ = some (.slice pa a.body.length pc) := cell_of_row wB w.heap.size 4 _ 49 _ hN
 have c5 : wB.cell? ⟨w.heap.size, 5, none⟩ = some (.int .i64 a.arrow) := cell_of_row wB w.heap.size 5 _ 49 _ hN
 have c6 : wB.cell? ⟨w.heap.size, 6, none⟩ = some (.bool a.head.neg) := cell_of_row wB w.heap.size 6 _ 49 _ hN
 have c7 : wB.cell? ⟨w.heap.size, 7, none⟩ = some (.string ⟨a.head.pred.toArray⟩) := cell_of_row wB w.heap.size 7 _ 49 _ hN
 have c8 : wB.cell? ⟨w.heap.size, 8, none⟩ = some (.slice qa a.head.args.length qc) := cell_of_row wB w.heap.size 8 _ 49 _ hN
 have c9 : wB.cell? ⟨w.heap.size, 9, none⟩ = some (.bool a.head.hasValue) := cell_of_row wB w.heap.size 9 _ 49 _ hN
 have As : wB.cell? ⟨w.heap.size, 10, none⟩ = some (.int .i64 a.head.value) := cell_of_row wB w.heap.size 10 _ 49 _ hN
 have An : Hid (Kd.holds (.prems a.body) wB (.slice pa a.body.length pc)) := ec (Kd.keep (k := .prems a.body) Ab.out.keeps hx)
 have Au : Hid (Kd.holds (.lit a.head) wB (.agg #[.bool a.head.neg, .string ⟨a.head.pred.toArray⟩, .slice qa a.head.args.length qc, .bool a.head.hasValue, .int .i64 a.head.value])) := ec (Kd.keep (k := .lit a.head) Ab.out.keeps ⟨_, rfl, hy⟩)
 clear hN
 clear hx hy hfit
 go_enter Tryz.func85, Tryz.ntmps85
 go_wp2_with fail
 rename_i K hK
 rw [← Aa]
 refine gE (B := [1]) rN Grows (nj wB) (Gk [.any, .val (.pointer (some ⟨w.heap.size, 0, none⟩)), .part (ez [eX [[114, 117, 108, 101, 32], a.name, [32, 111, 102, 32], a.source, [32, 97, 116, 32]], XP.day (a.day), ey (!decide (a.till = 0)) (ez [some [32, 117, 110, 116, 105, 108, 32], XP.day (a.till)]), some [32, 58, 32], fd ((a.body).map (fI XP)), ey (decide (0 < (a.body).length)) (some [32]), eY (a.arrow) [[45, 62], [61, 62], [126, 62]], some [32], kr XP (a.head)]), .val (.pointer (some ⟨w.heap.size, 0, none⟩)), .val (.string ⟨a.name.toArray⟩), .val (.pointer (some ⟨w.heap.size, 1, none⟩)), .val (.string ⟨a.source.toArray⟩), .strs ([[114, 117, 108, 101, 32], a.name, [32, 111, 102, 32], a.source, [32, 97, 116, 32]]), .part (eX [[114, 117, 108, 101, 32], a.name, [32, 111, 102, 32], a.source, [32, 97, 116, 32]]), .val (.pointer (some ⟨w.heap.size, 2, none⟩)), .val (.int .i64 a.day), .part (XP.day (a.day)), .val (.pointer (some ⟨w.heap.size, 3, none⟩)), .val (.int .i64 a.till), .val (.bool (!decide (a.till = 0))), .strs ([[32, 117, 110, 116, 105, 108, 32]]), .part (some [32, 117, 110, 116, 105, 108, 32]), .val (.pointer (some ⟨w.heap.size, 3, none⟩)), .val (.int .i64 a.till), .part (XP.day (a.till)), .parts [some [32, 117, 110, 116, 105, 108, 32], XP.day (a.till)], .part (ez [some [32, 117, 110, 116, 105, 108, 32], XP.day (a.till)]), .part (ey (!decide (a.till = 0)) (ez [some [32, 117, 110, 116, 105, 108, 32], XP.day (a.till)])), .strs ([[32, 58, 32]]), .part (some [32, 58, 32]), .val (.pointer (some ⟨w.heap.size, 4, none⟩)), .prems (a.body), .part (fd ((a.body).map (fI XP))), .val (.pointer (some ⟨w.heap.size, 4, none⟩)), .prems (a.body), .val (.int .i64 ((a.body).length : Nat)), .val (.bool (decide (0 < (a.body).length))), .strs ([[32]]), .part (some [32]), .part (ey (decide (0 < (a.body).length)) (some [32])), .val (.pointer (some ⟨w.heap.size, 5, none⟩)), .val (.int .i64 a.arrow), .strs ([[45, 62], [61, 62], [126, 62]]), .part (eY (a.arrow) [[45, 62], [61, 62], [126, 62]]), .strs ([[32]]), .part (some [32]), .val (.pointer (some ⟨w.heap.size, 6, none⟩)), .lit (a.head), .part (kr XP (a.head)), .parts [eX [[114, 117, 108, 101, 32], a.name, [32, 111, 102, 32], a.source, [32, 97, 116, 32]], XP.day (a.day), ey (!decide (a.till = 0)) (ez [some [32, 117, 110, 116, 105, 108, 32], XP.day (a.till)]), some [32, 58, 32], fd ((a.body).map (fI XP)), ey (decide (0 < (a.body).length)) (some [32]), eY (a.arrow) [[45, 62], [61, 62], [126, 62]], some [32], kr XP (a.head)], .part (ez [eX [[114, 117, 108, 101, 32], a.name, [32, 111, 102, 32], a.source, [32, 97, 116, 32]], XP.day (a.day), ey (!decide (a.till = 0)) (ez [some [32, 117, 110, 116, 105, 108, 32], XP.day (a.till)]), some [32, 58, 32], fd ((a.body).map (fI XP)), ey (decide (0 < (a.body).length)) (some [32]), eY (a.arrow) [[45, 62], [61, 62], [126, 62]], some [32], kr XP (a.head)])]) 1000 (by kernel_rfl) (by kernel_rfl) (eZ (by kernel_rfl)) (jh (by kernel_rfl)) (fun s w w' v h => Gk.keep s w w' v h) (Grows.drew _) ?hb (ia ⟨?_, ?_, ?_, ?_, ?_, ?_, ?_, ?_, ?_, ?_, ?_, ?_, ?_, ?_, ?_, ?_, ?_, ?_, ?_, ?_, ?_, ?_, ?_, ?_, ?_, ?_, ?_, ?_, ?_, ?_, ?_, ?_, ?_, ?_, ?_, ?_, ?_, ?_, ?_, ?_, ?_, ?_, ?_, ?_, trivial⟩) (fun _ _ _ _ h => h.elim) ?hend
 case hb =>
  intro s hs
  simp only [List.mem_cons, List.not_mem_nil, or_false] at hs
  rcases hs with rfl <;> rfl
 case hend =>
  rintro ⟨tm, df⟩ w' _ Ai hI _ Ap
  simp only at Ai
  subst Ai
  have hv := Ap 43 2 rfl
  refine hK _ _ (j0 (t := 2) Tryz.results85 rfl ⟨_, rfl, ?_, Grows.trans Ab.out hI⟩)
  exact hv
 · intro ρ W b hc hf _ hI hg
   have g1 : ρ (.tmp 1) = .pointer (some ⟨w.heap.size, 0, none⟩) := hg 1 (by decide)
   refine ef (v := .pointer (some ⟨w.heap.size, 0, none⟩)) (w' := W) ?_ ⟨Grows.refl _, hI, fun d hd => by cases hd; exact rfl⟩
   clear hg hc hf
   go_simp
 · intro ρ W b hc hf _ hI hg
   have g3 : ρ (.tmp 3) = .pointer (some ⟨w.heap.size, 0, none⟩) := hg 3 (by decide)
   have d0 := Grows.cell hI c0
   refine ef (v := .string ⟨a.name.toArray⟩) (w' := W) ?_ ⟨Grows.refl _, hI, fun d hd => by cases hd; exact rfl⟩
   clear hg hc hf
   go_simp
 · intro ρ W b hc hf _ hI hg
   have g1 : ρ (.tmp 1) = .pointer (some ⟨w.heap.size, 0, none⟩) := hg 1 (by decide)
   refine ef (v := .pointer (some ⟨w.heap.size, 1, none⟩)) (w' := W) ?_ ⟨Grows.refl _, hI, fun d hd => by cases hd; exact rfl⟩
   clear hg hc hf
   go_simp
 · intro ρ W b hc hf _ hI hg
   have g5 : ρ (.tmp 5) = .pointer (some ⟨w.heap.size, 1, none⟩) := hg 5 (by decide)
   have d0 := Grows.cell hI c1
   refine ef (v := .string ⟨a.source.toArray⟩) (w' := W) ?_ ⟨Grows.refl _, hI, fun d hd => by cases hd; exact rfl⟩
   clear hg hc hf
   go_simp
 · intro ρ W b hc hf _ hI hg
   have k0 := hc (.string ⟨#[114, 117, 108, 101, 32]⟩)
   have g4 : ρ (.tmp 4) = .string ⟨a.name.toArray⟩ := hg 4 (by decide)
   have k2 := hc (.string ⟨#[32, 111, 102, 32]⟩)
   have g6 : ρ (.tmp 6) = .string ⟨a.source.toArray⟩ := hg 6 (by decide)
   have k4 := hc (.string ⟨#[32, 97, 116, 32]⟩)
   refine ef (v := .slice (some ⟨W.heap.size, 0, none⟩) 5 5) (w' := W.alloc (.cells #[.string ⟨#[114, 117, 108, 101, 32]⟩, .string ⟨(a.name).toArray⟩, .string ⟨#[32, 111, 102, 32]⟩, .string ⟨(a.source).toArray⟩, .string ⟨#[32, 97, 116, 32]⟩] 9)) ?_ ⟨Grows.alloc _ _, Grows.trans hI (Grows.alloc _ _), fun d hd => by cases hd; exact fh W [[114, 117, 108, 101, 32], a.name, [32, 111, 102, 32], a.source, [32, 97, 116, 32]] (by unfold maxLen; simp)⟩
   clear hg hc hf
   go_simp
 · intro ρ W b hc hf _ hI hg
   have g7 : Strs Any W ([[114, 117, 108, 101, 32], a.name, [32, 111, 102, 32], a.source, [32, 97, 116, 32]]) (ρ (.tmp 7)) := hg 7 (by decide)
   have k0 := hf 73
   refine es (f := 73) (args := #[ρ (.tmp 7)]) (w' := W) ?_ (iV W [[114, 117, 108, 101, 32], a.name, [32, 111, 102, 32], a.source, [32, 97, 116, 32]] _ g7 (by simp) (by intro x hx; simp only [List.mem_cons, List.not_mem_nil, or_false] at hx; rcases hx with rfl | rfl | rfl | rfl | rfl <;> first | decide | exact HFit.out.name | exact HFit.out.source)) ?_
   · clear hg hc hf
     go_simp
   · rintro e W' ⟨v, rfl, hv, hb⟩
     exact ⟨v, rfl, hb, Grows.trans hI hb, fun d hd => by cases hd; exact hv⟩
 · intro ρ W b hc hf _ hI hg
   have g1 : ρ (.tmp 1) = .pointer (some ⟨w.heap.size, 0, none⟩) := hg 1 (by decide)
   refine ef (v := .pointer (some ⟨w.heap.size, 2, none⟩)) (w' := W) ?_ ⟨Grows.refl _, hI, fun d hd => by cases hd; exact rfl⟩
   clear hg hc hf
   go_simp
 · intro ρ W b hc hf _ hI hg
   have g9 : ρ (.tmp 9) = .pointer (some ⟨w.heap.size, 2, none⟩) := hg 9 (by decide)
   have d0 := Grows.cell hI c2
   refine ef (v := .int .i64 a.day) (w' := W) ?_ ⟨Grows.refl _, hI, fun d hd => by cases hd; exact rfl⟩
   clear hg hc hf
   go_simp
 · intro ρ W b hc hf _ hI hg
   have AY : ρ (.tmp 10) = .int .i64 a.day := hg 10 (by decide)
   have k0 := hf 148
   refine es (f := 148) (args := #[.int .i64 (a.day)]) (w' := W) ?_ (ur W (a.day)) ?_
   · clear hg hc hf
     go_simp
   · rintro e W' ⟨v, rfl, hv, hb⟩
     exact ⟨v, rfl, hb, Grows.trans hI hb, fun d hd => by cases hd; exact hv⟩
 · intro ρ W b hc hf _ hI hg
   have g1 : ρ (.tmp 1) = .pointer (some ⟨w.heap.size, 0, none⟩) := hg 1 (by decide)
   refine ef (v := .pointer (some ⟨w.heap.size, 3, none⟩)) (w' := W) ?_ ⟨Grows.refl _, hI, fun d hd => by cases hd; exact rfl⟩
   clear hg hc hf
   go_simp
 · intro ρ W b hc hf _ hI hg
   have AF : ρ (.tmp 12) = .pointer (some ⟨w.heap.size, 3, none⟩) := hg 12 (by decide)
   have d0 := Grows.cell hI c3
   refine ef (v := .int .i64 a.till) (w' := W) ?_ ⟨Grows.refl _, hI, fun d hd => by cases hd; exact rfl⟩
   clear hg hc hf
   go_simp
 · intro ρ W b hc hf _ hI hg
   have AR : ρ (.tmp 13) = .int .i64 a.till := hg 13 (by decide)
   have k0 := hc (.int .i64 0)
   refine ef (v := .bool (!decide (a.till = 0))) (w' := W) ?_ ⟨Grows.refl _, hI, fun d hd => by cases hd; exact rfl⟩
   clear hg hc hf
   go_simp
   all_goals first | rfl | (simp [bne]; done)
 · intro ρ W b hc hf _ hI hg
   have k0 := hc (.string ⟨#[32, 117, 110, 116, 105, 108, 32]⟩)
   refine ef (v := .slice (some ⟨W.heap.size, 0, none⟩) 1 1) (w' := W.alloc (.cells #[.string ⟨#[32, 117, 110, 116, 105, 108, 32]⟩] 9)) ?_ ⟨Grows.alloc _ _, Grows.trans hI (Grows.alloc _ _), fun d hd => by cases hd; exact fh W [[32, 117, 110, 116, 105, 108, 32]] (by unfold maxLen; simp)⟩
   clear hg hc hf
   go_simp
 · intro ρ W b hc hf _ hI hg
   have AA : Strs Any W ([[32, 117, 110, 116, 105, 108, 32]]) (ρ (.tmp 15)) := hg 15 (by decide)
   have k0 := hf 73
   refine es (f := 73) (args := #[ρ (.tmp 15)]) (w' := W) ?_ (fG W [32, 117, 110, 116, 105, 108, 32] _ AA (by decide)) ?_
   · clear hg hc hf
     go_simp
   · rintro e W' ⟨v, rfl, hv, hb⟩
     exact ⟨v, rfl, hb, Grows.trans hI hb, fun d hd => by cases hd; exact hv⟩
 · intro ρ W b hc hf _ hI hg
   have g1 : ρ (.tmp 1) = .pointer (some ⟨w.heap.size, 0, none⟩) := hg 1 (by decide)
   refine ef (v := .pointer (some ⟨w.heap.size, 3, none⟩)) (w' := W) ?_ ⟨Grows.refl _, hI, fun d hd => by cases hd; exact rfl⟩
   clear hg hc hf
   go_simp
 · intro ρ W b hc hf _ hI hg
   have AN : ρ (.tmp 17) = .pointer (some ⟨w.heap.size, 3, none⟩) := hg 17 (by decide)
   have d0 := Grows.cell hI c3
   refine ef (v := .int .i64 a.till) (w' := W) ?_ ⟨Grows.refl _, hI, fun d hd => by cases hd; exact rfl⟩
   clear hg hc hf
   go_simp
 · intro ρ W b hc hf _ hI hg
   have AJ : ρ (.tmp 18) = .int .i64 a.till := hg 18 (by decide)
   have k0 := hf 148
   refine es (f := 148) (args := #[.int .i64 (a.till)]) (w' := W) ?_ (ur W (a.till)) ?_
   · clear hg hc hf
     go_simp
   · rintro e W' ⟨v, rfl, hv, hb⟩
     exact ⟨v, rfl, hb, Grows.trans hI hb, fun d hd => by cases hd; exact hv⟩
 · intro ρ W b hc hf _ hI hg
   have Ao : Tells (some [32, 117, 110, 116, 105, 108, 32]) W (ρ (.tmp 16)) := hg 16 (by decide)
   have Ak : Tells (XP.day (a.till)) W (ρ (.tmp 19)) := hg 19 (by decide)
   have hP := fF W [some [32, 117, 110, 116, 105, 108, 32], XP.day (a.till)] [ρ (.tmp 16), ρ (.tmp 19)] rfl (by unfold maxLen; simp) ⟨Ao, Ak, trivial⟩
   obtain ⟨Ba, Bn, Bc, -, -⟩ := Ao
   obtain ⟨Bu, Bj, AL, -, -⟩ := Ak
   refine ef (v := .slice (some ⟨W.heap.size, 0, none⟩) 2 2) (w' := W.alloc (.cells #[ρ (.tmp 16), ρ (.tmp 19)] 86)) ?_ ⟨Grows.alloc _ _, Grows.trans hI (Grows.alloc _ _), fun d hd => by cases hd; exact hP⟩
   clear hg hc hf hP
   go_simp
 · intro ρ W b hc hf _ hI hg
   have Ar : Parts W [some [32, 117, 110, 116, 105, 108, 32], XP.day (a.till)] (ρ (.tmp 20)) := hg 20 (by decide)
   have k0 := hf 70
   refine es (f := 70) (args := #[ρ (.tmp 20)]) (w' := W) ?_ (hM W [some [32, 117, 110, 116, 105, 108, 32], XP.day (a.till)] _ Ar (by simp)) ?_
   · clear hg hc hf
     go_simp
   · rintro e W' ⟨v, rfl, hv, hb⟩
     exact ⟨v, rfl, hb, Grows.trans hI hb, fun d hd => by cases hd; exact hv⟩
 · intro ρ W b hc hf _ hI hg
   have AE : ρ (.tmp 14) = .bool (!decide (a.till = 0)) := hg 14 (by decide)
   have Aq : Tells (ez [some [32, 117, 110, 116, 105, 108, 32], XP.day (a.till)]) W (ρ (.tmp 21)) := hg 21 (by decide)
   have k0 := hf 71
   refine es (f := 71) (args := #[.bool (!decide (a.till = 0)), ρ (.tmp 21)]) (w' := W) ?_ (iw W (!decide (a.till = 0)) (ez [some [32, 117, 110, 116, 105, 108, 32], XP.day (a.till)]) _ Aq) ?_
   · clear hg hc hf
     go_simp
   · rintro e W' ⟨v, rfl, hv, hb⟩
     exact ⟨v, rfl, hb, Grows.trans hI hb, fun d hd => by cases hd; exact hv⟩
 · intro ρ W b hc hf _ hI hg
   have k0 := hc (.string ⟨#[32, 58, 32]⟩)
   refine ef (v := .slice (some ⟨W.heap.size, 0, none⟩) 1 1) (w' := W.alloc (.cells #[.string ⟨#[32, 58, 32]⟩] 9)) ?_ ⟨Grows.alloc _ _, Grows.trans hI (Grows.alloc _ _), fun d hd => by cases hd; exact fh W [[32, 58, 32]] (by unfold maxLen; simp)⟩
   clear hg hc hf
   go_simp
 · intro ρ W b hc hf _ hI hg
   have At : Strs Any W ([[32, 58, 32]]) (ρ (.tmp 23)) := hg 23 (by decide)
   have k0 := hf 73
   refine es (f := 73) (args := #[ρ (.tmp 23)]) (w' := W) ?_ (fG W [32, 58, 32] _ At (by decide)) ?_
   · clear hg hc hf
     go_simp
   · rintro e W' ⟨v, rfl, hv, hb⟩
     exact ⟨v, rfl, hb, Grows.trans hI hb, fun d hd => by cases hd; exact hv⟩
 · intro ρ W b hc hf _ hI hg
   have g1 : ρ (.tmp 1) = .pointer (some ⟨w.heap.size, 0, none⟩) := hg 1 (by decide)
   refine ef (v := .pointer (some ⟨w.heap.size, 4, none⟩)) (w' := W) ?_ ⟨Grows.refl _, hI, fun d hd => by cases hd; exact rfl⟩
   clear hg hc hf
   go_simp
 · intro ρ W b hc hf _ hI hg
   have AQ : ρ (.tmp 25) = .pointer (some ⟨w.heap.size, 4, none⟩) := hg 25 (by decide)
   have d0 := Grows.cell hI c4
   refine ef (v := .slice pa a.body.length pc) (w' := W) ?_ ⟨Grows.refl _, hI, fun d hd => by cases hd; exact (Kd.keep (k := .prems (a.body)) (Grows.keeps hI) An.out)⟩
   clear hg hc hf
   go_simp
 · intro ρ W b hc hf _ hI hg
   have AC : Prems Any W (a.body) (ρ (.tmp 26)) := hg 26 (by decide)
   have k1 := hf 118
   have k0 := hf 149
   refine es (f := 149) (args := #[ρ (.tmp 26), .func (.func 118) #[] #[]]) (w' := W) ?_ (sn W (a.body) _ AC HFit.out.body) ?_
   · clear hg hc hf
     go_simp
   · rintro e W' ⟨v, rfl, hv, hb⟩
     exact ⟨v, rfl, hb, Grows.trans hI hb, fun d hd => by cases hd; exact hv⟩
 · intro ρ W b hc hf _ hI hg
   have g1 : ρ (.tmp 1) = .pointer (some ⟨w.heap.size, 0, none⟩) := hg 1 (by decide)
   refine ef (v := .pointer (some ⟨w.heap.size, 4, none⟩)) (w' := W) ?_ ⟨Grows.refl _, hI, fun d hd => by cases hd; exact rfl⟩
   clear hg hc hf
   go_simp
 · intro ρ W b hc hf _ hI hg
   have AX : ρ (.tmp 28) = .pointer (some ⟨w.heap.size, 4, none⟩) := hg 28 (by decide)
   have d0 := Grows.cell hI c4
   refine ef (v := .slice pa a.body.length pc) (w' := W) ?_ ⟨Grows.refl _, hI, fun d hd => by cases hd; exact (Kd.keep (k := .prems (a.body)) (Grows.keeps hI) An.out)⟩
   clear hg hc hf
   go_simp
 · intro ρ W b hc hf _ hI hg
   have Ag : Prems Any W (a.body) (ρ (.tmp 29)) := hg 29 (by decide)
   obtain ⟨qa, qc, eq⟩ := ed Ag
   refine ef (v := .int .i64 ((a.body).length : Nat)) (w' := W) ?_ ⟨Grows.refl _, hI, fun d hd => by cases hd; exact rfl⟩
   clear hg hc hf Ag
   go_simp
 · intro ρ W b hc hf _ hI hg
   have Bb : ρ (.tmp 30) = .int .i64 ((a.body).length : Nat) := hg 30 (by decide)
   have k0 := hc (.int .i64 0)
   refine ef (v := .bool (decide (0 < (a.body).length))) (w' := W) ?_ ⟨Grows.refl _, hI, fun d hd => by cases hd; exact rfl⟩
   clear hg hc hf
   go_simp
   all_goals first | rfl | (simp [bne]; done)
 · intro ρ W b hc hf _ hI hg
   have k0 := hc (.string ⟨#[32]⟩)
   refine ef (v := .slice (some ⟨W.heap.size, 0, none⟩) 1 1) (w' := W.alloc (.cells #[.string ⟨#[32]⟩] 9)) ?_ ⟨Grows.alloc _ _, Grows.trans hI (Grows.alloc _ _), fun d hd => by cases hd; exact fh W [[32]] (by unfold maxLen; simp)⟩
   clear hg hc hf
   go_simp
 · intro ρ W b hc hf _ hI hg
   have Aw : Strs Any W ([[32]]) (ρ (.tmp 32)) := hg 32 (by decide)
   have k0 := hf 73
   refine es (f := 73) (args := #[ρ (.tmp 32)]) (w' := W) ?_ (fG W [32] _ Aw (by decide)) ?_
   · clear hg hc hf
     go_simp
   · rintro e W' ⟨v, rfl, hv, hb⟩
     exact ⟨v, rfl, hb, Grows.trans hI hb, fun d hd => by cases hd; exact hv⟩
 · intro ρ W b hc hf _ hI hg
   have Bh : ρ (.tmp 31) = .bool (decide (0 < (a.body).length)) := hg 31 (by decide)
   have Ay : Tells (some [32]) W (ρ (.tmp 33)) := hg 33 (by decide)
   have k0 := hf 71
   refine es (f := 71) (args := #[.bool (decide (0 < (a.body).length)), ρ (.tmp 33)]) (w' := W) ?_ (iw W (decide (0 < (a.body).length)) (some [32]) _ Ay) ?_
   · clear hg hc hf
     go_simp
   · rintro e W' ⟨v, rfl, hv, hb⟩
     exact ⟨v, rfl, hb, Grows.trans hI hb, fun d hd => by cases hd; exact hv⟩
 · intro ρ W b hc hf _ hI hg
   have g1 : ρ (.tmp 1) = .pointer (some ⟨w.heap.size, 0, none⟩) := hg 1 (by decide)
   refine ef (v := .pointer (some ⟨w.heap.size, 5, none⟩)) (w' := W) ?_ ⟨Grows.refl _, hI, fun d hd => by cases hd; exact rfl⟩
   clear hg hc hf
   go_simp
 · intro ρ W b hc hf _ hI hg
   have Bl : ρ (.tmp 35) = .pointer (some ⟨w.heap.size, 5, none⟩) := hg 35 (by decide)
   have d0 := Grows.cell hI c5
   refine ef (v := .int .i64 a.arrow) (w' := W) ?_ ⟨Grows.refl _, hI, fun d hd => by cases hd; exact rfl⟩
   clear hg hc hf
   go_simp
 · intro ρ W b hc hf _ hI hg
   have k0 := hc (.string ⟨#[45, 62]⟩)
   have k1 := hc (.string ⟨#[61, 62]⟩)
   have k2 := hc (.string ⟨#[126, 62]⟩)
   refine ef (v := .slice (some ⟨W.heap.size, 0, none⟩) 3 3) (w' := W.alloc (.cells #[.string ⟨#[45, 62]⟩, .string ⟨#[61, 62]⟩, .string ⟨#[126, 62]⟩] 9)) ?_ ⟨Grows.alloc _ _, Grows.trans hI (Grows.alloc _ _), fun d hd => by cases hd; exact fh W [[45, 62], [61, 62], [126, 62]] (by unfold maxLen; simp)⟩
   clear hg hc hf
   go_simp
 · intro ρ W b hc hf _ hI hg
   have Bi : ρ (.tmp 36) = .int .i64 a.arrow := hg 36 (by decide)
   have Ax : Strs Any W ([[45, 62], [61, 62], [126, 62]]) (ρ (.tmp 37)) := hg 37 (by decide)
   have k0 := hf 150
   refine es (f := 150) (args := #[.int .i64 (a.arrow), ρ (.tmp 37)]) (w' := W) ?_ (rj W (a.arrow) HFit.out.arrow.1 HFit.out.arrow.2 [[45, 62], [61, 62], [126, 62]] _ Ax (by simp) (by intro x hx; simp only [List.mem_cons, List.not_mem_nil, or_false] at hx; rcases hx with rfl | rfl | rfl <;> decide)) ?_
   · clear hg hc hf
     go_simp
   · rintro e W' ⟨v, rfl, hv, hb⟩
     exact ⟨v, rfl, hb, Grows.trans hI hb, fun d hd => by cases hd; exact hv⟩
 · intro ρ W b hc hf _ hI hg
   have k0 := hc (.string ⟨#[32]⟩)
   refine ef (v := .slice (some ⟨W.heap.size, 0, none⟩) 1 1) (w' := W.alloc (.cells #[.string ⟨#[32]⟩] 9)) ?_ ⟨Grows.alloc _ _, Grows.trans hI (Grows.alloc _ _), fun d hd => by cases hd; exact fh W [[32]] (by unfold maxLen; simp)⟩
   clear hg hc hf
   go_simp
 · intro ρ W b hc hf _ hI hg
   have AD : Strs Any W ([[32]]) (ρ (.tmp 39)) := hg 39 (by decide)
   have k0 := hf 73
   refine es (f := 73) (args := #[ρ (.tmp 39)]) (w' := W) ?_ (fG W [32] _ AD (by decide)) ?_
   · clear hg hc hf
     go_simp
   · rintro e W' ⟨v, rfl, hv, hb⟩
     exact ⟨v, rfl, hb, Grows.trans hI hb, fun d hd => by cases hd; exact hv⟩
 · intro ρ W b hc hf _ hI hg
   have g1 : ρ (.tmp 1) = .pointer (some ⟨w.heap.size, 0, none⟩) := hg 1 (by decide)
   refine ef (v := .pointer (some ⟨w.heap.size, 6, none⟩)) (w' := W) ?_ ⟨Grows.refl _, hI, fun d hd => by cases hd; exact rfl⟩
   clear hg hc hf
   go_simp
 · intro ρ W b hc hf _ hI hg
   have AU : ρ (.tmp 41) = .pointer (some ⟨w.heap.size, 6, none⟩) := hg 41 (by decide)
   have d0 := Grows.cell hI c6
   have d1 := Grows.cell hI c7
   have d2 := Grows.cell hI c8
   have d3 := Grows.cell hI c9
   have d4 := Grows.cell hI As
   refine ef (v := .agg #[.bool a.head.neg, .string ⟨a.head.pred.toArray⟩, .slice qa a.head.args.length qc, .bool a.head.hasValue, .int .i64 a.head.value]) (w' := W) ?_ ⟨Grows.refl _, hI, fun d hd => by cases hd; exact (Kd.keep (k := .lit (a.head)) (Grows.keeps hI) Au.out)⟩
   clear hg hc hf
   go_simp
 · intro ρ W b hc hf _ hI hg
   have AB : vG Any W (a.head) (ρ (.tmp 42)) := hg 42 (by decide)
   have k0 := hf 151
   refine es (f := 151) (args := #[ρ (.tmp 42)]) (w' := W) ?_ (pq W (a.head) _ AB HFit.out.head) ?_
   · clear hg hc hf
     go_simp
   · rintro e W' ⟨v, rfl, hv, hb⟩
     exact ⟨v, rfl, hb, Grows.trans hI hb, fun d hd => by cases hd; exact hv⟩
 · intro ρ W b hc hf _ hI hg
   have g8 : Tells (eX [[114, 117, 108, 101, 32], a.name, [32, 111, 102, 32], a.source, [32, 97, 116, 32]]) W (ρ (.tmp 8)) := hg 8 (by decide)
   have Ad : Tells (XP.day (a.day)) W (ρ (.tmp 11)) := hg 11 (by decide)
   have Ae : Tells (ey (!decide (a.till = 0)) (ez [some [32, 117, 110, 116, 105, 108, 32], XP.day (a.till)])) W (ρ (.tmp 22)) := hg 22 (by decide)
   have Am : Tells (some [32, 58, 32]) W (ρ (.tmp 24)) := hg 24 (by decide)
   have Af : Tells (fd ((a.body).map (fI XP))) W (ρ (.tmp 27)) := hg 27 (by decide)
   have Ac : Tells (ey (decide (0 < (a.body).length)) (some [32])) W (ρ (.tmp 34)) := hg 34 (by decide)
   have Aj : Tells (eY (a.arrow) [[45, 62], [61, 62], [126, 62]]) W (ρ (.tmp 38)) := hg 38 (by decide)
   have Ah : Tells (some [32]) W (ρ (.tmp 40)) := hg 40 (by decide)
   have Al : Tells (kr XP (a.head)) W (ρ (.tmp 43)) := hg 43 (by decide)
   have hP := fF W [eX [[114, 117, 108, 101, 32], a.name, [32, 111, 102, 32], a.source, [32, 97, 116, 32]], XP.day (a.day), ey (!decide (a.till = 0)) (ez [some [32, 117, 110, 116, 105, 108, 32], XP.day (a.till)]), some [32, 58, 32], fd ((a.body).map (fI XP)), ey (decide (0 < (a.body).length)) (some [32]), eY (a.arrow) [[45, 62], [61, 62], [126, 62]], some [32], kr XP (a.head)] [ρ (.tmp 8), ρ (.tmp 11), ρ (.tmp 22), ρ (.tmp 24), ρ (.tmp 27), ρ (.tmp 34), ρ (.tmp 38), ρ (.tmp 40), ρ (.tmp 43)] rfl (by unfold maxLen; simp) ⟨g8, Ad, Ae, Am, Af, Ac, Aj, Ah, Al, trivial⟩
   obtain ⟨k8, q8, e8, -, -⟩ := g8
   obtain ⟨AT, AG, Br, -, -⟩ := Ad
   obtain ⟨Bq, AM, AV, -, -⟩ := Ae
   obtain ⟨AK, AH, Bf, -, -⟩ := Am
   obtain ⟨AO, Be, Bk, -, -⟩ := Af
   obtain ⟨AW, AS, Bs, -, -⟩ := Ac
   obtain ⟨AP, Bt, Bg, -, -⟩ := Aj
   obtain ⟨AI, Bp, Bd, -, -⟩ := Ah
   obtain ⟨AZ, Bm, Bo, -, -⟩ := Al
   refine ef (v := .slice (some ⟨W.heap.size, 0, none⟩) 9 9) (w' := W.alloc (.cells #[ρ (.tmp 8), ρ (.tmp 11), ρ (.tmp 22), ρ (.tmp 24), ρ (.tmp 27), ρ (.tmp 34), ρ (.tmp 38), ρ (.tmp 40), ρ (.tmp 43)] 86)) ?_ ⟨Grows.alloc _ _, Grows.trans hI (Grows.alloc _ _), fun d hd => by cases hd; exact hP⟩
   clear hg hc hf hP
   go_simp
 · intro ρ W b hc hf _ hI hg
   have Az : Parts W [eX [[114, 117, 108, 101, 32], a.name, [32, 111, 102, 32], a.source, [32, 97, 116, 32]], XP.day (a.day), ey (!decide (a.till = 0)) (ez [some [32, 117, 110, 116, 105, 108, 32], XP.day (a.till)]), some [32, 58, 32], fd ((a.body).map (fI XP)), ey (decide (0 < (a.body).length)) (some [32]), eY (a.arrow) [[45, 62], [61, 62], [126, 62]], some [32], kr XP (a.head)] (ρ (.tmp 44)) := hg 44 (by decide)
   have k0 := hf 70
   refine es (f := 70) (args := #[ρ (.tmp 44)]) (w' := W) ?_ (hM W [eX [[114, 117, 108, 101, 32], a.name, [32, 111, 102, 32], a.source, [32, 97, 116, 32]], XP.day (a.day), ey (!decide (a.till = 0)) (ez [some [32, 117, 110, 116, 105, 108, 32], XP.day (a.till)]), some [32, 58, 32], fd ((a.body).map (fI XP)), ey (decide (0 < (a.body).length)) (some [32]), eY (a.arrow) [[45, 62], [61, 62], [126, 62]], some [32], kr XP (a.head)] _ Az (by simp)) ?_
   · clear hg hc hf
     go_simp
   · rintro e W' ⟨v, rfl, hv, hb⟩
     exact ⟨v, rfl, hb, Grows.trans hI hb, fun d hd => by cases hd; exact hv⟩
 · intro ρ W b hc hf _ hI hg
   have Av : Tells (ez [eX [[114, 117, 108, 101, 32], a.name, [32, 111, 102, 32], a.source, [32, 97, 116, 32]], XP.day (a.day), ey (!decide (a.till = 0)) (ez [some [32, 117, 110, 116, 105, 108, 32], XP.day (a.till)]), some [32, 58, 32], fd ((a.body).map (fI XP)), ey (decide (0 < (a.body).length)) (some [32]), eY (a.arrow) [[45, 62], [61, 62], [126, 62]], some [32], kr XP (a.head)]) W (ρ (.tmp 45)) := hg 45 (by decide)
   exact ef (v := ρ (.tmp 45)) (w' := W) rfl ⟨Grows.refl _, hI, fun d hd => by cases hd; exact Av⟩
end Go.Proofs.YtbpphlmakmeoaaaGreatDoor.Sy
