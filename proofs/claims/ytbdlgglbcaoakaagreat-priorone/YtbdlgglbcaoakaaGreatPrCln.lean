/- Order; Index, Clone. -/
import Derived.Test.YtbdlgglbcaoakaaGreatPrLwf
import Derived.Lib.SliceRun
namespace Go.Proofs.YtbdlgglbcaoakaaGreat.Pr
open Go.RowKit

set_option maxRecDepth 100000 in
set_option maxHeartbeats 3200000 in
theorem order_any {w : World} {next : List (List Int)} {a : Option Addr} {c : Nat} (h : Lists w.heap.size w next (.slice a next.length c)) (hn : next.length ≤ 1048576) (ht : total next ≤ 1048576) :
    Calls Tryz.prog 16 #[.slice a next.length c] w fun e w' => ∃ out, Kahn next out ∧ KMax next out ∧ Below w.heap.size w w' ∧ ((out.length < next.length ∧ e = .returned (.tuple #[.slice none 0 0, .bool false])) ∨ (out.length = next.length ∧ ∃ ov, e = .returned (.tuple #[ov, .bool true]) ∧ w'.ownsRow w.heap.size 3 1 ov out.length (ints (zn out)))) := by
  have C1 := hide (lowest_any h hn ht)
  obtain ⟨n, hnn⟩ : ∃ n, next.length = n := ⟨_, rfl⟩
  have HNN := hide hnn
  rw [hnn] at hn C1 ⊢
  clear h hnn
  go_enter Tryz.func16, Tryz.ntmps16
  go_upto_region 2 with (go_at_call 25; refine C1.out.mono ?_; rintro e w1 ⟨out, ov, rfl, h1, h2, h3, h4⟩; obtain ⟨oa, oc, rfl⟩ := owns_slice h3; have H1 := hide h1; have H2 := hide h2; have H3 := hide h3; have H4 := hide h4; clear h1 h2 h3 h4)
  have hle : out.length ≤ n := by have := kahn_len H1.out; rw [HNN.out] at this; exact this
  obtain ⟨K, hK⟩ : ∃ K, out.length = K := ⟨_, rfl⟩
  have HK := hide hK
  rw [hK] at hle H3 ⊢
  clear hK
  by_cases hlt : K < n
  · go_wp2_with fail
    go_ret2
    exact ⟨out, H1.out, H2.out, H4.out, .inl ⟨by rw [HK.out]; exact hlt, rfl⟩⟩
  · go_wp2_with fail
    go_ret2
    exact ⟨out, H1.out, H2.out, H4.out, .inr ⟨by rw [HK.out]; omega, _, rfl, by rw [HK.out]; exact H3.out⟩⟩
set_option maxRecDepth 100000 in
set_option maxHeartbeats 3200000 in
theorem idx_any {w : World} {a : Option Addr} {l : List Int} {c : Nat} (h : At1 w a (ints l)) (hl : l.length ≤ 140737488351232) {s : Int} (hs : s ∈ l) :
    Calls Tryz.prog 88 #[.slice a l.length c, .int .i64 s] w fun e w' => ∃ i : Nat, e = .returned (.int .i64 i) ∧ l[i]? = some s ∧ w' = w := by
  have HA := hide h
  have HS := hide hs
  clear h hs
  go_enter Tryz.func88, Tryz.ntmps88
  go_wp2_with fail
  go_loop [8] (fun x => ∃ k : Nat, k ≤ l.length ∧ x = .int .i64 k ∧ Hid (s ∉ l.take k)) (fun x => l.length - (intOf x).toNat)
  case atStart => exact ⟨0, by omega, rfl, hide (by simp)⟩
  case round =>
    obtain ⟨k, hk, rfl, HK⟩ := hrel
    by_cases hlt : k < l.length
    · obtain ⟨g, o, rfl, kc⟩ := HA.out.int hlt
      by_cases he : l.getD k 0 = s
      · have HP : Hid (l[k]? = some s) := hide (by rw [List.getD_eq_getElem?_getD, List.getElem?_eq_getElem hlt] at he; rw [List.getElem?_eq_getElem hlt]; simpa using he)
        rw [he] at kc
        clear he HK
        go_wp2_with fail
        go_ret
        exact ⟨k, rfl, HP.out, rfl⟩
      · have HP := hide (take_step hlt HK.out he)
        generalize l.getD k 0 = x at kc he
        have hbb : (s == x) = false := beq_eq_false_iff_ne.2 (fun e => he e.symm)
        clear he HK
        go_wp2_with fail
        go_round
        case rel => exact ⟨k + 1, by omega, by go_num, HP⟩
        case measure => simp [intOf]; omega
    · exfalso
      have := HK.out
      rw [List.take_of_length_le (by omega)] at this
      exact this HS.out
theorem ones (l : List Int) : ∀ u ∈ ints l, u.oneCell' = true := by
  intro u hu
  unfold ints at hu
  obtain ⟨x, _, rfl⟩ := List.mem_map.1 hu
  rfl
set_option maxRecDepth 100000 in
set_option maxHeartbeats 3200000 in
theorem clone_any {w : World} {g o c : Nat} {l : List Int} (h : ∀ i u, (ints l)[i]? = some u → w.cell? ⟨g, o + i, none⟩ = some u) (hl : l.length ≤ 1048576) :
    Calls Tryz.prog 87 #[.slice (some ⟨g, o, none⟩) l.length c] w fun e w' => ∃ v, e = .returned v ∧ w'.ownsRow w.heap.size 3 1 v l.length (ints l) ∧ Below w.heap.size w w' := by
  obtain ⟨iI, hiI, zI0, zI1, zI2⟩ := info_parts infoI
  have qT : ∀ (w : World) (a : Option Addr) (n c n' c' : Nat), (binOp .eql 57 (.slice a n c) (.slice none n' c')).run Tryz.prog w = .ok (.bool a.isNone) w := fun w a n c n' c' => Lib.run_eql_slice_nil w _ _ a n c n' c' Tryz.underlying57
  have hA := below_new w (.cells #[] 3)
  have HE : Hid ((w.alloc (.cells #[] 3)).ownsRow w.heap.size 3 1 (.slice (some ⟨w.heap.size, 0, none⟩) 0 0) 0 []) := hide ⟨rfl, .inr ⟨w.heap.size, 0, #[], rfl, Nat.le_refl _, heap_alloc_new w _, Nat.le_refl _, Nat.zero_le _, rfl, rfl⟩⟩
  have HS : Hid (Src Tryz.prog 1 57 (.slice (some ⟨g, o, none⟩) l.length c) l.length (ints l) (w.alloc (.cells #[] 3))) := hide (Src.ofSlice _ Tryz.underlying57 _ _ _ _ (by rw [ints_len]; omega) (fun j u hu => by
    rw [Addr.add_lit]
    have h1 := h j u hu
    exact (World.cell?_of_block (hA.block g (World.block_lt_of_cell? w _ h1))).trans h1) (ones l))
  have HSZ : Hid ((w.alloc (.cells #[] 3)).heap.size = w.heap.size + 1) := hide (by simp)
  have HA := hide hA
  obtain ⟨m, hm⟩ : ∃ m, l.length = m := ⟨_, rfl⟩
  rw [hm] at hl HS ⊢
  clear h hA hm
  go_enter Tryz.func87, Tryz.ntmps87
  go_wp2_with (at_builtin; go_must (refine wpList_append_src _ (by rw [HSZ.out]; omega) (by rfl) _ _ 57 57 rfl 3 iI _ 1 8 Tryz.underlying57 hiI zI0 zI1 zI2 rfl (.slice (some ⟨w.heap.size, 0, none⟩) 0 0) 0 [] rfl HE.out (.slice (some ⟨g, o, none⟩) m c) m (ints l) rfl HS.out (by unfold maxLen; omega) (by omega) ?_); intro v4 w4 hown4 hg4 hat4; rw [Nat.zero_add, List.nil_append] at hown4; have HO4 := hide hown4; have HB4 : Hid (Below w.heap.size w w4) := hide (HA.out.trans ((Fr.of_grown (Z := fun k => w.heap.size ≤ k) hg4 (fun k e => by cases e; exact Nat.le_refl _)).below fun k hk => ⟨by rw [HSZ.out]; omega, by omega⟩)); clear hown4 hg4 hat4)
  go_ret
  exact ⟨_, rfl, HO4.out, HB4.out⟩
end Go.Proofs.YtbdlgglbcaoakaaGreat.Pr
