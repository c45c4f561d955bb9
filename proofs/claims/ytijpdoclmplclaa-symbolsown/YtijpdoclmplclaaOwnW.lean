/- SymbolsOwn's walk. -/
import Derived.Test.YtijpdoclmplclaaNoth
import Derived.Test.YtijpdoclmplclaaCopy2
import Derived.BigFrame
namespace Go.Proofs.Ytijpdoclmplclaa
open Go.RowKit Go.Shelf Go.Maps

theorem owns_elem {w : World} {e : Nat} {v : Value} {n : Nat} {xs : List Value} (h : w.ownsRow 0 e 1 v n xs) {i : Nat} (hi : i < n) : ∃ x, xs[i]? = some x := by
  have := h.1
  rw [Nat.mul_one] at this
  exact ⟨xs[i]'(by omega), List.getElem?_eq_getElem (by omega)⟩

/-- The table and the four lists. -/
structure Bun (w : World) (T : Nat → Prop) (B M : Nat) (nv sv : Value) (l : List Bytes) (va vb vc vd : Value) (W : World) : Prop where
  tab : Tab T B M nv 1 sv 64 l W
  ra : W.ownsRow 0 9 1 va l.length (strs l)
  rb : W.ownsRow 0 3 1 vb l.length (ints (srt l))
  rc : ∃ xs, W.ownsRow 0 9 1 vc l.length xs
  rd : ∃ xs, W.ownsRow 0 3 1 vd l.length xs
  bel : Below w.heap.size w W
section
variable {w : World} {T : Nat → Prop} {B M : Nat} {nv sv : Value} {l : List Bytes} {va vb vc vd : Value} {W : World}
theorem Bun.setC {g cap i : Nat} {u : Value} (h : Bun w T B M nv sv l va vb (.slice (some ⟨g, 0, none⟩) l.length cap) vd W) (hT : ¬ T g) (ha : va.ownBlock ≠ some g) (hb : vb.ownBlock ≠ some g) (hd : vd.ownBlock ≠ some g) (hs : w.heap.size ≤ g) :
    Bun w T B M nv sv l va vb (.slice (some ⟨g, 0, none⟩) l.length cap) vd (W.setCell ⟨g, i, none⟩ u) := by
  have o : ∀ k, k ≠ g → (W.setCell ⟨g, i, none⟩ u).heap[k]? = W.heap[k]? := fun k hk => heap_setCell_other W ⟨g, i, none⟩ k u hk
  obtain ⟨xs, hx⟩ := h.rc
  obtain ⟨ys, hy⟩ := h.rd
  exact ⟨h.tab.keep fun k hk _ => o k (fun e => hT (e ▸ hk)), owns_keep h.ra fun k hk => o k (fun e => ha (e ▸ hk)), owns_keep h.rb fun k hk => o k (fun e => hb (e ▸ hk)), ⟨_, (hx.stored i u).1⟩, ⟨ys, owns_keep hy fun k hk => o k (fun e => hd (e ▸ hk))⟩, h.bel.setCell hs _⟩
theorem Bun.setD {g cap i : Nat} {u : Value} (h : Bun w T B M nv sv l va vb vc (.slice (some ⟨g, 0, none⟩) l.length cap) W) (hT : ¬ T g) (ha : va.ownBlock ≠ some g) (hb : vb.ownBlock ≠ some g) (hc : vc.ownBlock ≠ some g) (hs : w.heap.size ≤ g) :
    Bun w T B M nv sv l va vb vc (.slice (some ⟨g, 0, none⟩) l.length cap) (W.setCell ⟨g, i, none⟩ u) := by
  have o : ∀ k, k ≠ g → (W.setCell ⟨g, i, none⟩ u).heap[k]? = W.heap[k]? := fun k hk => heap_setCell_other W ⟨g, i, none⟩ k u hk
  obtain ⟨xs, hx⟩ := h.rd
  obtain ⟨ys, hy⟩ := h.rc
  exact ⟨h.tab.keep fun k hk _ => o k (fun e => hT (e ▸ hk)), owns_keep h.ra fun k hk => o k (fun e => ha (e ▸ hk)), owns_keep h.rb fun k hk => o k (fun e => hb (e ▸ hk)), ⟨ys, owns_keep hy fun k hk => o k (fun e => hc (e ▸ hk))⟩, ⟨_, (hx.stored i u).1⟩, h.bel.setCell hs _⟩
end

set_option maxRecDepth 100000 in
set_option maxHeartbeats 12800000 in
theorem ownW (a : Option Addr) (n c : Nat) (w : World) (hn : n ≤ 140737488351232) (ht : Texts w a n) : Calls Try.prog 6 #[.slice a n c] w fun e w' => e = .returned (.bool true) ∧ Below w.heap.size w w' := by
  have HT := hide ht
  have CA := hide (alive_any w)
  have CN := hide num_any
  clear ht
  go_enter Try.func6, Try.ntmps6
  go_wp2_with fail
  refine CA.out.mono ?_
  rintro _ w1 ⟨rfl, hb1⟩
  have HB1 := hide hb1
  have C1 := hide (new_any (Z := fun k => w.heap.size ≤ k) 64 w1 (z_new (fun _ h => h) hb1.size) (by decide) (by decide))
  clear hb1 CA
  go_wp2_with fail
  refine C1.out.mono ?_
  rintro _ w2 ⟨B, M, rfl, hT2, hb2⟩
  have HB2 := hide (HB1.out.trans (hb2.mono HB1.out.size))
  have HT2 := hide hT2
  clear hb2 hT2 C1 HB1
  go_wp2_with (go_at_call 13; refine (CN.out _ _).mono ?_; rintro _ wn ⟨rfl, hwn⟩; subst wn)
  go_loopw [5] (fun x wr => ∃ k : Nat, k ≤ n ∧ x = .int .i64 k ∧ Hid (∃ nv d sv l, Tab (fun k => w.heap.size ≤ k) B M nv d sv 64 l wr) ∧ Hid (Below w.heap.size w wr)) (fun x _ => n - (intOf x).toNat)
  case atStart => exact ⟨0, by omega, rfl, hide ⟨_, _, _, _, HT2.out⟩, HB2⟩
  case round =>
    obtain ⟨k, hk, rfl, HTB, HB⟩ := hrel
    by_cases hlt : k < n
    · obtain ⟨nv, d, sv, l, hT⟩ := HTB.out
      obtain ⟨g, o, s, rfl, hc0, hg, hs⟩ := HT.out k hlt
      have hc := (World.cell?_of_block (HB.out.block g hg)).trans hc0
      have C2 := hide (add_any hT s (z_new (fun _ h => h) HB.out.size))
      generalize (addM 64 l s.data.toList).1 = an at C2
      generalize (addM 64 l s.data.toList).2.1 = ae at C2
      generalize (addM 64 l s.data.toList).2.2 = l' at C2
      clear HTB hT hc0 hg
      go_wp2_with fail
      refine C2.out.mono ?_
      rintro _ w3 ⟨rfl, ⟨nv3, d3, sv3, hT3⟩, hf3⟩
      have HB3 := hide (hf3.low HB.out)
      have HT3 := hide hT3
      clear hT3 hf3 C2 hc
      go_wp2_with fail
      go_roundw
      case rel => exact ⟨k + 1, by omega, by go_num, hide ⟨_, _, _, _, HT3.out⟩, HB3⟩
      case measure => simp [intOf]; omega
    · obtain ⟨nv, d, sv, l, hT⟩ := HTB.out
      have hT' := hT.mono (Z' := fun k => w.heap.size ≤ k ∧ k < wr.heap.size) fun k hk h => ⟨h, hk⟩
      have HL := hide hT.len2
      have hl := hT.len2
      have C1 := hide (names_any hT')
      have HTR := hide hT'
      clear hT hT' HTB hk HT2 HB2
      go_wp2_with fail
      refine C1.out.mono ?_
      rintro _ w3 ⟨v, rfl, hr3, hb3⟩
      obtain ⟨aa, ac, rfl⟩ := owns_slice hr3
      have HB3 := hide (HB.out.trans (hb3.mono HB.out.size))
      have HA3 := hide hr3
      have HS3 := hide hb3.size
      have hT3 := (HTR.out.below hb3).mono (Z' := fun k => (w.heap.size ≤ k ∧ k < wr.heap.size) ∨ w3.heap.size ≤ k) fun k _ h => .inl h
      have C2 := hide (sorted_any hT3 (fun g hg => .inr hg))
      clear hr3 hb3 hT3 C1 HTR
      go_wp2_with fail
      refine C2.out.mono ?_
      rintro _ w4 ⟨ba, bc, n0, sv4, rfl, hr4, hn4, hT4, hf4⟩
      have HB4 := hide (HB3.out.trans (hf4.below fun k hk => ⟨Nat.lt_of_lt_of_le hk HB3.out.size, by have := HB3.out.size; have := HS3.out; have := HB.out.size; omega⟩))
      have HA4 := hide (owns_keep (own_zero HA3.out) fun g hg => hf4.block g (owns_lt HA3.out hg) (by have := (HA3.out.lt g hg).1; have := (HA3.out.lt g hg).2; omega))
      have HAI := hide (fun g hg => (HA3.out.lt g hg))
      have HB0 := hide hr4
      have HN4 := hide hn4
      have HT4 := hide hT4
      have C3 := hide (names_any hT4)
      clear hr4 hn4 hT4 hf4 C2 HA3
      go_wp2_with fail
      refine C3.out.mono ?_
      rintro _ w5 ⟨v, rfl, hr5, hb5⟩
      obtain ⟨ca, cc, rfl⟩ := owns_slice hr5
      have HB5 := hide (HB4.out.trans (hb5.mono HB4.out.size))
      have HS5 := hide hb5.size
      have HA5 := hide (owns_keep HA4.out fun g hg => hb5.block g (owns_lt HA4.out hg))
      have HBB5 := hide (owns_keep (own_zero HB0.out) fun g hg => hb5.block g (owns_lt HB0.out hg))
      have HBI := hide (fun g hg => (HB0.out.lt g hg))
      have HC0 := hide hr5
      have hT5 := (HT4.out.below hb5).mono (Z' := fun k => (((w.heap.size ≤ k ∧ k < wr.heap.size) ∨ w3.heap.size ≤ k) ∧ k < n0) ∨ w5.heap.size ≤ k) fun k _ h => .inl h
      have C4 := hide (sorted_any hT5 (fun g hg => .inr hg))
      clear hr5 hb5 hT5 C3 HT4 HA4 HB0
      go_wp2_with fail
      refine C4.out.mono ?_
      rintro _ w6 ⟨da, dc, n1, sv6, rfl, hr6, hn6, hT6, hf6⟩
      have HS34 : Hid (w3.heap.size ≤ w4.heap.size) := hide (Nat.le_trans HN4.out.1 HN4.out.2)
      have HB6 := hide (HB5.out.trans (hf6.below fun k hk => ⟨Nat.lt_of_lt_of_le hk HB5.out.size, by have := HB3.out.size; have := HB5.out.size; have := HS3.out; have := HB.out.size; omega⟩))
      have HA6 := hide (owns_keep HA5.out fun g hg => hf6.block g (owns_lt HA5.out hg) (by have := HAI.out g hg; have := HS34.out; have := HS5.out; omega))
      have HBB6 := hide (owns_keep HBB5.out fun g hg => hf6.block g (owns_lt HBB5.out hg) (by have := HBI.out g hg; have := HS5.out; omega))
      have HC6 := hide (owns_keep (own_zero HC0.out) fun g hg => hf6.block g (owns_lt HC0.out hg) (by have := HC0.out.lt g hg; have := HN4.out; omega))
      have HD6 := hide (own_zero hr6)
      -- who is apart from whom
      have HCT : Hid (∀ g, (Value.slice ca l.length cc).ownBlock = some g → w4.heap.size ≤ g ∧ g < w5.heap.size) := hide (fun g hg => (HC0.out.lt g hg))
      have HDT : Hid (∀ g, (Value.slice da l.length dc).ownBlock = some g → n1 ≤ g ∧ g < w6.heap.size) := hide (fun g hg => (hr6.lt g hg))
      have HN6 := hide hn6
      have HT6 := hide hT6
      clear hr6 hn6 hT6 hf6 C4 HA5 HBB5 HC0
      have HBN : Hid (Bun w (fun k => ((((w.heap.size ≤ k ∧ k < wr.heap.size) ∨ w3.heap.size ≤ k) ∧ k < n0) ∨ w5.heap.size ≤ k) ∧ k < n1) B M nv sv6 l (.slice aa l.length ac) (.slice ba l.length bc) (.slice ca l.length cc) (.slice da l.length dc) w6) := hide ⟨HT6.out, HA6.out, HBB6.out, ⟨_, HC6.out⟩, ⟨_, HD6.out⟩, HB6.out⟩
      have XC : Hid (∀ g, (Value.slice ca l.length cc).ownBlock = some g → ¬ (fun k => ((((w.heap.size ≤ k ∧ k < wr.heap.size) ∨ w3.heap.size ≤ k) ∧ k < n0) ∨ w5.heap.size ≤ k) ∧ k < n1) g ∧ (Value.slice aa l.length ac).ownBlock ≠ some g ∧ (Value.slice ba l.length bc).ownBlock ≠ some g ∧ (Value.slice da l.length dc).ownBlock ≠ some g ∧ w.heap.size ≤ g) := by
        intro g hg
        have h1 := HCT.out g hg
        have h2 := HN4.out
        have h3 := HN6.out
        have h4 := HB4.out.size
        refine ⟨?_, fun e => ?_, fun e => ?_, fun e => ?_, by omega⟩
        · show ¬ (((((w.heap.size ≤ g ∧ g < wr.heap.size) ∨ w3.heap.size ≤ g) ∧ g < n0) ∨ w5.heap.size ≤ g) ∧ g < n1)
          omega
        · have := HAI.out g e; omega
        · have := HBI.out g e; omega
        · have := HDT.out g e; omega
      have XD : Hid (∀ g, (Value.slice da l.length dc).ownBlock = some g → ¬ (fun k => ((((w.heap.size ≤ k ∧ k < wr.heap.size) ∨ w3.heap.size ≤ k) ∧ k < n0) ∨ w5.heap.size ≤ k) ∧ k < n1) g ∧ (Value.slice aa l.length ac).ownBlock ≠ some g ∧ (Value.slice ba l.length bc).ownBlock ≠ some g ∧ (Value.slice ca l.length cc).ownBlock ≠ some g ∧ w.heap.size ≤ g) := by
        intro g hg
        have h1 := HDT.out g hg
        have h2 := HN4.out
        have h3 := HN6.out
        have h4 := HB5.out.size
        have h5 := HS5.out
        refine ⟨?_, fun e => ?_, fun e => ?_, fun e => ?_, by omega⟩
        · show ¬ (((((w.heap.size ≤ g ∧ g < wr.heap.size) ∨ w3.heap.size ≤ g) ∧ g < n0) ∨ w5.heap.size ≤ g) ∧ g < n1)
          omega
        · have := HAI.out g e; omega
        · have := HBI.out g e; omega
        · have := HCT.out g e; omega
      have XB : Hid (∀ g, (Value.slice ba l.length bc).ownBlock = some g → ¬ (fun k => ((((w.heap.size ≤ k ∧ k < wr.heap.size) ∨ w3.heap.size ≤ k) ∧ k < n0) ∨ w5.heap.size ≤ k) ∧ k < n1) g) := by
        intro g hg
        have h1 := HBI.out g hg
        have h5 := HS5.out
        show ¬ (((((w.heap.size ≤ g ∧ g < wr.heap.size) ∨ w3.heap.size ≤ g) ∧ g < n0) ∨ w5.heap.size ≤ g) ∧ g < n1)
        omega
      have XT : Hid (∀ g, (fun k => ((((w.heap.size ≤ k ∧ k < wr.heap.size) ∨ w3.heap.size ≤ k) ∧ k < n0) ∨ w5.heap.size ≤ k) ∧ k < n1) g → w.heap.size ≤ g) := by
        intro g hg
        have h1 := HB3.out.size
        have h2 := HB5.out.size
        have h3 : ((((w.heap.size ≤ g ∧ g < wr.heap.size) ∨ w3.heap.size ≤ g) ∧ g < n0) ∨ w5.heap.size ≤ g) ∧ g < n1 := hg
        omega
      generalize (fun k => ((((w.heap.size ≤ k ∧ k < wr.heap.size) ∨ w3.heap.size ≤ k) ∧ k < n0) ∨ w5.heap.size ≤ k) ∧ k < n1) = T at HBN XC XD XB XT
      clear HT6 HA6 HBB6 HC6 HD6 HB6 HCT HDT HN4 HN6 HB4 HB5 HB3 HS3 HS5 HS34 HAI HBI HB HT HL
      go_wp2_with fail
      go_loopw [10] (fun x W => ∃ k : Nat, k ≤ l.length ∧ x = .int .i64 k ∧ Hid (Bun w T B M nv sv6 l (.slice aa l.length ac) (.slice ba l.length bc) (.slice ca l.length cc) (.slice da l.length dc) W)) (fun x _ => l.length - (intOf x).toNat)
      case atStart => exact ⟨0, by omega, rfl, HBN⟩
      case round =>
        obtain ⟨k, hk, rfl, HW⟩ := hrel
        by_cases hlt : k < l.length
        · obtain ⟨xs, hx⟩ := HW.out.rc
          obtain ⟨x, hxe⟩ := owns_elem hx hlt
          obtain ⟨g, cap, e1, kc, kf, -⟩ := owns_at hx hxe
          simp only [Value.slice.injEq] at e1
          obtain ⟨rfl, -, rfl⟩ := e1
          have kf' := kf k
          clear kf hx hxe
          go_wp2_with fail
          go_roundw
          case rel =>
            obtain ⟨y1, y2, y3, y4, y5⟩ := XC.out g rfl
            exact ⟨k + 1, by omega, by go_num, hide (HW.out.setC y1 y2 y3 y4 y5)⟩
          case measure => simp [intOf]; omega
        · clear HBN hk
          go_wp2_with fail
          go_loopw [11] (fun x W => ∃ k : Nat, k ≤ l.length ∧ x = .int .i64 k ∧ Hid (Bun w T B M nv sv6 l (.slice aa l.length ac) (.slice ba l.length bc) (.slice ca l.length cc) (.slice da l.length dc) W)) (fun x _ => l.length - (intOf x).toNat)
          case atStart => exact ⟨0, by omega, rfl, HW⟩
          case round =>
            obtain ⟨k, hk, rfl, HW⟩ := hrel
            by_cases hlt : k < l.length
            · obtain ⟨xs, hx⟩ := HW.out.rd
              obtain ⟨x, hxe⟩ := owns_elem hx hlt
              obtain ⟨g, cap, e1, kc, kf, -⟩ := owns_at hx hxe
              simp only [Value.slice.injEq] at e1
              obtain ⟨rfl, -, rfl⟩ := e1
              have kf' := kf k
              clear kf hx hxe
              go_wp2_with fail
              go_roundw
              case rel =>
                obtain ⟨y1, y2, y3, y4, y5⟩ := XD.out g rfl
                exact ⟨k + 1, by omega, by go_num, hide (HW.out.setD y1 y2 y3 y4 y5)⟩
              case measure => simp [intOf]; omega
            · have C5 := hide (copy_any HW.out.tab)
              clear hk
              go_wp2_with fail
              refine C5.out.mono ?_
              rintro _ w8 ⟨Bx, Mx, nvx, rfl, hTx, hb8⟩
              have CX := hide (fun s => add_any hTx s (fun g hg => Nat.le_trans hb8.size hg))
              have HT8 := hide ((HW.out.tab.mono (Z' := fun k => T k ∧ k < wr.heap.size) fun k hk h => ⟨h, hk⟩).below hb8)
              have HA8 := hide (owns_keep HW.out.ra fun g hg => hb8.block g (owns_lt HW.out.ra hg))
              have HR8 := hide (owns_keep HW.out.rb fun g hg => hb8.block g (owns_lt HW.out.rb hg))
              have HAL := hide (fun g hg => owns_lt HW.out.ra (g := g) hg)
              have HBL := hide (fun g hg => owns_lt HW.out.rb (g := g) hg)
              have HB8 := hide (HW.out.bel.trans (hb8.mono HW.out.bel.size))
              have HWS := hide HW.out.bel.size
              have CQ : Hid (∀ p w, Unmade p w → Calls Try.prog 26 #[p] w fun e w' => e = .returned (.bool true) ∧ Below w.heap.size w w') := fun p w h => nothing_any h
              clear hTx hb8 C5 HW
              go_wp2_with fail
              refine (CX.out _).mono ?_
              rintro _ w9 ⟨rfl, -, hf9⟩
              have HT9 := hide (HT8.out.keep fun k hk hlt => hf9.block k hlt (by have := hk.2; omega))
              have HA9 := hide (owns_keep HA8.out fun g hg => hf9.block g (owns_lt HA8.out hg) (by have := HAL.out g hg; omega))
              have HR9 := hide (owns_keep HR8.out fun g hg => hf9.block g (owns_lt HR8.out hg) (by have := HBL.out g hg; omega))
              have HB9 := hide (HB8.out.trans (hf9.below fun k hk => ⟨Nat.lt_of_lt_of_le hk HB8.out.size, by have := HWS.out; omega⟩))
              have C6 := hide (names_any HT9.out)
              clear hf9 CX HT8 HA8 HR8
              go_wp2_with fail
              refine C6.out.mono ?_
              rintro _ w10 ⟨v, rfl, hr10, hb10⟩
              obtain ⟨ea, ec, rfl⟩ := owns_slice hr10
              have HT10 := hide (HT9.out.below hb10)
              have HR10 := hide (owns_keep HR9.out fun g hg => hb10.block g (owns_lt HR9.out hg))
              have HB10 := hide (HB9.out.trans (hb10.mono HB9.out.size))
              have C7 := hide (sameS_any (own_zero hr10) (owns_keep HA9.out fun g hg => hb10.block g (owns_lt HA9.out hg)) hl)
              clear hr10 hb10 C6 HT9 HA9 HR9
              go_wp2_with fail
              refine C7.out.mono ?_
              rintro _ w11 ⟨rfl, hb11⟩
              have HT11 := hide (HT10.out.below hb11)
              have HR11 := hide (owns_keep HR10.out fun g hg => hb11.block g (owns_lt HR10.out hg))
              have HB11 := hide (HB10.out.trans (hb11.mono HB10.out.size))
              have C8 := hide (sorted_any (HT11.out.mono (Z' := fun k => (T k ∧ k < wr.heap.size) ∨ w11.heap.size ≤ k) fun k _ h => .inl h) (fun g hg => .inr hg))
              clear hb11 C7 HT10 HR10
              go_wp2_with fail
              refine C8.out.mono ?_
              rintro _ w12 ⟨fa, fc, n2, sv12, rfl, hr12, -, -, hf12⟩
              have HR12 := hide (owns_keep HR11.out fun g hg => hf12.block g (owns_lt HR11.out hg) (by have h1 := XB.out g hg; have h2 := owns_lt HR11.out hg; intro hh; rcases hh with hh | hh; exact h1 hh.1; omega))
              have HB12 := hide (HB11.out.trans (hf12.below fun k hk => ⟨Nat.lt_of_lt_of_le hk HB11.out.size, by have h2 := HB11.out.size; intro hh; rcases hh with hh | hh; have := XT.out k hh.1; omega; omega⟩))
              have C9 := hide (sameI_any (l := srt l) (by rw [srt_length]; exact own_zero hr12) (by rw [srt_length]; exact HR12.out) (by rw [srt_length]; exact hl))
              clear hr12 hf12 C8 HT11 HR11
              go_wp2_with fail
              refine C9.out.mono ?_
              rintro _ w13 ⟨rfl, hb13⟩
              have HB13 := hide (HB12.out.trans (hb13.mono HB12.out.size))
              clear hb13 C9
              go_wp2_with fail
              refine (CQ.out _ _ (.inl rfl)).mono ?_
              rintro _ w14 ⟨rfl, hb14⟩
              have hz14 := (World.cell?_of_block (hb14.block w13.heap.size (by simp))).trans (cell_of_row _ w13.heap.size 0 _ _ _ (heap_alloc_new w13 (.cells #[.int .i64 0, .slice none 0 0, .map none, .int .u32 0, .int .i32 0, .int .u32 0, .slice none 0 0] 70)))
              have HU := hide (CQ.out (ptr w13.heap.size) w14 (.inr ⟨_, rfl, hz14, by have := hb14.size; simp at this; omega⟩))
              have HB14 := hide ((HB13.out.alloc HB13.out.size (.cells #[.int .i64 0, .slice none 0 0, .map none, .int .u32 0, .int .i32 0, .int .u32 0, .slice none 0 0] 70)).trans (hb14.mono (by have := HB13.out.size; simp; omega)))
              clear hz14 hb14
              go_wp2_with fail
              refine HU.out.mono ?_
              rintro _ w15 ⟨rfl, hb15⟩
              have HB15 := hide (HB14.out.trans (hb15.mono HB14.out.size))
              clear hb15
              go_wp2_with fail
              go_ret
              exact ⟨rfl, HB15.out⟩
end Go.Proofs.Ytijpdoclmplclaa
