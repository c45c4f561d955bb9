/- WireOwn, walked: true of any steps and bytes; nothing that was there is turned. -/
import Derived.Test.YtagpdceaononkaaWAlv
import Derived.Test.YtagpdceaononkaaWCpy
import Derived.Laws.OwnMore
namespace Go.Proofs.Ytagpdceaononkaa
open Go.RowKit

/-- The steps that bytes say, or none. -/
def decL (zs : List Int) : List StM := match wholeM zs with
  | .ok l => l
  | .error _ => []
theorem decL_ok {zs : List Int} (hz : ∀ z ∈ zs, 0 ≤ z ∧ z ≤ 255) : Okl (decL zs) := by
  unfold decL
  cases h : wholeM zs with
  | ok l => exact ((whole_iff hz).1 h).1
  | error e => exact ⟨Nat.zero_le _, fun s hs => by simp at hs⟩
theorem Decd.any {zs : List Int} {w w' : World} {e : Ending} (hd : Decd zs w e w') : ∃ a c r1 r2, e = .returned (.tuple #[.slice a (decL zs).length c, .int .i64 r1, .int .i64 r2]) ∧ Gs w.heap.size (decL zs) (.slice a (decL zs).length c) w' := by
  cases h : wholeM zs with
  | ok l =>
    obtain ⟨a, c, he, hg⟩ := Decd.is h hd
    have : decL zs = l := by unfold decL; rw [h]
    rw [this]
    exact ⟨a, c, _, _, he, hg⟩
  | error x =>
    have he := Decd.err (c := x.1) (p := x.2) h hd
    have : decL zs = [] := by unfold decL; rw [h]
    rw [this]
    exact ⟨none, 0, _, _, he, Gs.nil⟩
theorem encL_byte (l : List StM) : ∀ z ∈ encL l, 0 ≤ z ∧ z ≤ 255 := by
  unfold encL
  split
  · rename_i h; exact enc_byte (chk_okl h)
  · intro z hz; simp at hz
theorem encL_len (l : List StM) : (encL l).length ≤ 9000000004 := by
  unfold encL
  split
  · rename_i h
    have := body_len (chk_okl h)
    unfold encB
    rw [List.length_append]
    have : (fourB (crc (bodyB l))).length = 4 := rfl
    omega
  · simp
/-- Steps that may be written over, from the i-th on. -/
structure Shp (B g : Nat) (l : List StM) (i : Nat) (wr : World) : Prop where
  lo : B ≤ g
  cel : ∀ m, m < l.length * 5 → ∃ v, wr.cell? ⟨g, m, none⟩ = some v
  frz : ∀ m, wr.frozen? ⟨g, m, none⟩ = false
  ch : ∀ (j : Nat) s, i ≤ j → l[j]? = some s → ∃ ca cc, wr.cell? ⟨g, j * 5 + 4, none⟩ = some (.slice ca s.ch.length cc) ∧ (0 < s.ch.length → ∃ h, ca = some ⟨h, 0, none⟩ ∧ h ≠ g ∧ B ≤ h ∧ (∀ m, m < s.ch.length * 2 → ∃ v, wr.cell? ⟨h, m, none⟩ = some v) ∧ ∀ m, wr.frozen? ⟨h, m, none⟩ = false)
theorem Shp.of {B : Nat} {l : List StM} {a : Option Addr} {c : Nat} {w : World} (h : Gs B l (.slice a l.length c) w) : ∃ g, 0 < l.length → a = some ⟨g, 0, none⟩ ∧ Shp B g l 0 w := by
  obtain ⟨Z, xs, ho, hz, hc⟩ := h
  rcases ho.2 with ⟨_, h0⟩ | ⟨g, cap, cur, e2, hBg, hg, _⟩
  · exact ⟨0, fun h => by omega⟩
  · simp only [Value.slice.injEq, true_and] at e2
    obtain ⟨rfl, rfl⟩ := e2
    have hcl := ho.cells (g := g) (by simp [Value.ownBlock])
    refine ⟨g, fun _ => ⟨rfl, hBg, fun m hm => ?_, fun m => frozen_of_row _ _ _ _ _ hg, fun j s _ hs => ?_⟩⟩
    · have hx : xs.length = l.length * 5 := ho.1
      obtain ⟨v, hv⟩ := get_at (l := xs) (i := m) (by omega)
      have := hcl _ _ hv
      rw [Addr.add_lit] at this
      exact ⟨v, by simpa using this⟩
    · obtain ⟨ca, cc, e, ho2, hz2⟩ := hc j s hs
      refine ⟨ca, cc, ?_, fun hpos => ?_⟩
      · have hu : (stc s ca cc)[4]? = some (.slice ca s.ch.length cc) := rfl
        rw [← e, List.getElem?_take] at hu
        rw [if_pos (by decide), List.getElem?_drop] at hu
        have := hcl _ _ hu
        rw [Addr.add_lit] at this
        simpa using this
      · rcases ho2.2 with ⟨_, h0⟩ | ⟨g2, cap2, cur2, e3, _, hg2, _⟩
        · omega
        · simp only [Value.slice.injEq, true_and] at e3
          obtain ⟨rfl, rfl⟩ := e3
          have hcl2 := ho2.cells (g := g2) (by simp [Value.ownBlock])
          have hzz := hz g2 (hz2 g2 (by simp [Value.ownBlock]))
          refine ⟨g2, rfl, fun e => hzz.2.2 (by simp [Value.ownBlock, e]), hzz.1, fun m hm => ?_, fun m => frozen_of_row _ _ _ _ _ hg2⟩
          obtain ⟨v, hv⟩ := get_at (l := chL s.ch) (i := m) (by rw [chL_len]; exact hm)
          have := hcl2 _ _ hv
          rw [Addr.add_lit] at this
          exact ⟨v, by simpa using this⟩
theorem Shp.choice {B g : Nat} {l : List StM} {i h m : Nat} {v : Value} {wr : World} (hS : Shp B g l i wr) (hh : h ≠ g) : Shp B g l i (wr.setCell ⟨h, m, none⟩ v) := by
  refine ⟨hS.lo, fun k hk => ?_, fun k => by rw [World.frozen?_setCell]; exact hS.frz k, fun j s hj hs => ?_⟩
  · obtain ⟨u, hu⟩ := hS.cel k hk
    exact cell?_setCell_some hu
  · obtain ⟨ca, cc, e, hc⟩ := hS.ch j s hj hs
    refine ⟨ca, cc, (World.cell?_setCell_far wr ⟨h, m, none⟩ ⟨g, j * 5 + 4, none⟩ v hh).trans e, fun hp => ?_⟩
    obtain ⟨h2, e2, n2, b2, c2, f2⟩ := hc hp
    refine ⟨h2, e2, n2, b2, fun k hk => ?_, fun k => by rw [World.frozen?_setCell]; exact f2 k⟩
    obtain ⟨u, hu⟩ := c2 k hk
    exact cell?_setCell_some hu
theorem Shp.step {B g : Nat} {l : List StM} {i m : Nat} {v : Value} {wr : World} (hS : Shp B g l (i + 1) wr) (hm : m < 5) : Shp B g l (i + 1) (wr.setCell ⟨g, i * 5 + m, none⟩ v) := by
  refine ⟨hS.lo, fun k hk => ?_, fun k => by rw [World.frozen?_setCell]; exact hS.frz k, fun j s hj hs => ?_⟩
  · obtain ⟨u, hu⟩ := hS.cel k hk
    exact cell?_setCell_some hu
  · obtain ⟨ca, cc, e, hc⟩ := hS.ch j s hj hs
    refine ⟨ca, cc, (World.cell?_setCell_other wr ⟨g, i * 5 + m, none⟩ ⟨g, j * 5 + 4, none⟩ v (fun e => by have : i * 5 + m = j * 5 + 4 := congrArg Addr.off e; omega)).trans e, fun hp => ?_⟩
    obtain ⟨h2, e2, n2, b2, c2, f2⟩ := hc hp
    refine ⟨h2, e2, n2, b2, fun k hk => ?_, fun k => by rw [World.frozen?_setCell]; exact f2 k⟩
    obtain ⟨u, hu⟩ := c2 k hk
    exact cell?_setCell_some hu
theorem Shp.next {B g : Nat} {l : List StM} {i : Nat} {wr : World} (hS : Shp B g l i wr) : Shp B g l (i + 1) wr := ⟨hS.lo, hS.cel, hS.frz, fun j s hj hs => hS.ch j s (by omega) hs⟩
theorem Shp.keep {B g : Nat} {l : List StM} {i : Nat} {wr w' : World} (hS : Shp B g l i wr) (hk : ∀ k, B ≤ k → w'.heap[k]? = wr.heap[k]?) : Shp B g l i w' := by
  have kc : ∀ {k m : Nat} {v : Value}, B ≤ k → wr.cell? ⟨k, m, none⟩ = some v → w'.cell? ⟨k, m, none⟩ = some v := fun hb hv => (World.cell?_of_block (hk _ hb)).trans hv
  have kf : ∀ {k m : Nat}, B ≤ k → wr.frozen? ⟨k, m, none⟩ = false → w'.frozen? ⟨k, m, none⟩ = false := fun hb hv => (World.frozen?_of_block (hk _ hb)).trans hv
  refine ⟨hS.lo, fun m hm => ?_, fun m => kf hS.lo (hS.frz m), fun j s hj hs => ?_⟩
  · obtain ⟨u, hu⟩ := hS.cel m hm
    exact ⟨u, kc hS.lo hu⟩
  · obtain ⟨ca, cc, e, hc⟩ := hS.ch j s hj hs
    refine ⟨ca, cc, kc hS.lo e, fun hp => ?_⟩
    obtain ⟨h2, e2, n2, b2, c2, f2⟩ := hc hp
    refine ⟨h2, e2, n2, b2, fun k hk => ?_, fun k => kf b2 (f2 k)⟩
    obtain ⟨u, hu⟩ := c2 k hk
    exact ⟨u, kc b2 hu⟩
theorem mem_byte {zs : List Int} (h : ∀ i : Nat, 0 ≤ zs[i]?.getD 0 ∧ zs[i]?.getD 0 ≤ 255) : ∀ z ∈ zs, 0 ≤ z ∧ z ≤ 255 := by
  intro z hz
  obtain ⟨i, hi, rfl⟩ := List.mem_iff_getElem.1 hz
  simpa [hi] using h i
set_option maxRecDepth 100000 in
set_option maxHeartbeats 12800000 in
theorem wireOwn_any {w : World} {l : List StM} {la : Option Addr} {lc : Nat} (hl : l.length ≤ 140737488351232) (h : Sts w.heap.size w l la) {zb : List Int} {ba : Option Addr} {bc : Nat} (hrow : Row w ba zb) (hcap : zb.length ≤ bc) (hnil : ba = none → bc = 0) (hlb : zb.length ≤ 140737488351232) :
    Calls Try.prog 7 #[.slice la l.length lc, .slice ba zb.length bc] w fun e w' => e = .returned (.bool true) ∧ Below w.heap.size w w' := by
  have CA := hide (alive_any w)
  have HH := hide h
  have HRB := hide hrow
  have HYO := hide (decL_ok (mem_byte hrow.byte))
  have HXB := hide (encL_byte l)
  have hxl := encL_len l
  have CEN := hide (fun (X : World) (hX : Below w.heap.size w X) => encode_any (lc := lc) hX.size hl (h.keep hX.block))
  have CDE := hide (fun (X : World) (hX : Below w.heap.size w X) => decode_any (hrow.below hX (Nat.le_refl _)) hcap hnil hlb)
  unfold Encd at CEN
  clear h hrow
  obtain ⟨xs, hxs⟩ : ∃ xs, encL l = xs := ⟨_, rfl⟩
  obtain ⟨e0, he0⟩ : ∃ e0, (chkM l).1 = e0 := ⟨_, rfl⟩
  obtain ⟨yl, hyl⟩ : ∃ yl, decL zb = yl := ⟨_, rfl⟩
  have HYL := hide hyl
  rw [hxs, he0] at CEN
  rw [hxs] at HXB hxl
  rw [hyl] at HYO
  clear hxs he0 hyl
  have hy6 := HYO.out.len
  go_enter Try.func7, Try.ntmps7
  go_wp2_with fail
  refine CA.out.mono ?_
  rintro _ w1 ⟨rfl, hb1⟩
  have HB1 := hide hb1
  have C1 := hide (CEN.out w1 hb1)
  clear hb1 CA
  go_upto_region 4 with (go_at_call 11; refine C1.out.mono ?_; rintro _ w2 ⟨xa, xc, rfl, hox, hb2⟩; have HX := hide (owns_down hox (Nat.zero_le _)); have HB2 := hide (HB1.out.trans (hb2.mono HB1.out.size)); clear hox hb2)
  have C2 := hide (CDE.out w2 HB2.out)
  clear C1
  go_upto_region 5 with (go_at_call 18; refine C2.out.mono ?_; rintro _ w3 ⟨hd, hb3⟩; obtain ⟨ya, yc, r1, r2, rfl, hgy⟩ := hd.any; rw [HYL.out] at hgy; rw [HYL.out]; have HY := hide (Gs.down hgy (Nat.zero_le _)); have HX3 := hide (owns_keep HX.out fun g hg => hb3.block g (owns_lt HX.out hg)); have HB3 := hide (HB2.out.trans (hb3.mono HB2.out.size)); clear hd hgy hb3)
  obtain ⟨rx, rx2, rx3⟩ := row_of_owns HX3.out HXB.out
  have CP := hide (copy_any xa xs.length xc xs w3 rfl (by omega) rx)
  have HYS := hide (HY.out.chl HYO.out)
  clear C2 HX rx rx2 rx3
  go_upto_region 6 with (first
    | (go_at_call 17; refine CP.out.mono ?_; rintro _ w4 ⟨pv, rfl, hop, hb4⟩; obtain ⟨pa, pc, rfl⟩ := owns_slice hop; have HP := hide (owns_down hop (Nat.zero_le _)); have HX4 := hide (owns_keep HX3.out fun g hg => hb4.block g (owns_lt HX3.out hg)); have HY4 := hide (HYS.out.keep hb4.block); have HB4 := hide (HB3.out.trans (hb4.mono HB3.out.size)); have HS4 := hide hb4.size; have CQ := hide (copySteps_any (c := yc) HY4.out hb4.size (by omega) (fun s hs => by have := (HYO.out.may s hs).cl; omega)); clear hop hb4)
    | (go_at_call 8; refine CQ.out.mono ?_; rintro _ w5 ⟨qa, qc, rfl, hgq, hb5⟩; have HQ5 := hide ((Gs.down hgq (Nat.zero_le _)).chl HYO.out); have HX5 := hide (owns_keep HX4.out fun g hg => hb5.block g (owns_lt HX4.out hg)); have HP5 := hide (owns_keep HP.out fun g hg => hb5.block g (owns_lt HP.out hg)); have HY5 := hide ((HY4.out.up HS4.out).keep hb5.block); have HB5 := hide (HB4.out.trans (hb5.mono HB4.out.size)); have HS5 := hide hb5.size; clear hgq hb5))
  have C1 := hide (CEN.out w5 HB5.out)
  clear CP HYS HX3 HX4 HY4 HP HY HB3 HB2 HB1 HB4 CQ
  go_upto_region 7 with (go_at_call 11; refine C1.out.mono ?_; rintro _ w6 ⟨ka, kc, rfl, hok, hb6⟩; have HK := hide hok; have HB6 := hide hb6; clear hok hb6)
  have C2 := hide (CDE.out w6 (HB5.out.trans (HB6.out.mono HB5.out.size)))
  clear C1
  go_upto_region 9 with (go_at_call 18; refine C2.out.mono ?_; rintro _ w7 ⟨hd, hb7⟩; obtain ⟨da, dc, r3, r4, rfl, hgd⟩ := hd.any; rw [HYL.out] at hgd; rw [HYL.out]; have HD := hide hgd; have HK7 := hide (owns_keep HK.out fun g hg => hb7.block g (owns_lt HK.out hg)); have HKL : Hid (∀ g, Value.ownBlock (.slice ka xs.length kc) = some g → g < w6.heap.size) := hide (fun g hg => (HK.out.lt g hg).2); have HF7 : Hid (Fr (fun k => w5.heap.size ≤ k) w5 w7) := hide ((Fr.of_below HB6.out).trans (Fr.of_below hb7)); clear hd hgd hb7)
  obtain ⟨dg, hdg⟩ := Shp.of HD.out
  have HDA : Hid (0 < yl.length → da = some ⟨dg, 0, none⟩) := hide fun h => (hdg h).1
  have HSH : Hid (0 < yl.length → Shp w6.heap.size dg yl 0 w7) := hide fun h => (hdg h).2
  have h56 : w5.heap.size ≤ w6.heap.size := HB6.out.size
  clear C2 HK HD hdg CEN CDE
  go_loopw [17] (fun x wr => ∃ (k : Nat) (cs : List Int), k ≤ xs.length ∧ x = .int .i64 k ∧ Hid (wr.ownsRow w5.heap.size 5 1 (.slice ka xs.length kc) xs.length (byts cs)) ∧ Hid (0 < yl.length → Shp w6.heap.size dg yl 0 wr) ∧ Hid (Fr (fun k => w5.heap.size ≤ k) w5 wr)) (fun x _ => xs.length - (intOf x).toNat)
  case atStart => exact ⟨0, xs, by omega, rfl, HK7, HSH, HF7⟩
  case round =>
    clear HK7 HSH HF7
    obtain ⟨k, cs, hk, rfl, HK, HSH, HF⟩ := hrel
    by_cases hlt : k < xs.length
    · obtain ⟨g, rfl, hg1, hg2, -⟩ := own_news HK.out (by omega)
      have hgl := HKL.out g (by simp [Value.ownBlock])
      have hcl : cs.length = xs.length := by have := HK.out.1; rw [byts_len] at this; omega
      have hcx : wr.cell? ⟨g, k, none⟩ = some (.int .u8 (cs.getD k 0)) := by
        rw [HK.out.cellAt _ (by omega)]
        simp [byts, List.getD, show k < cs.length by omega]
      have hfr : wr.frozen? ⟨g, k, none⟩ = false := HK.out.frozenAt _
      have hst := (HK.out.stored k (.int .u8 85)).1
      have HK2 : Hid ((wr.setCell ⟨g, k, none⟩ (.int .u8 85)).ownsRow w5.heap.size 5 1 (.slice (some ⟨g, 0, none⟩) xs.length kc) xs.length (byts (cs.set k 85))) := hide (by unfold byts at hst ⊢; rw [List.map_set]; exact hst)
      have HSH2 : Hid (0 < yl.length → Shp w6.heap.size dg yl 0 (wr.setCell ⟨g, k, none⟩ (.int .u8 85))) := hide fun h => (HSH.out h).keep fun q hq => other_set (by omega)
      have HF2 : Hid (Fr (fun k => w5.heap.size ≤ k) w5 (wr.setCell ⟨g, k, none⟩ (.int .u8 85))) := hide (HF.out.trans (.setCell ⟨g, k, none⟩ _ hg1))
      clear hst hcl HK HSH HF
      go_wp2_with fail
      go_roundw
      case rel => exact ⟨k + 1, cs.set k 85, by omega, by go_num, HK2, HSH2, HF2⟩
      case measure => simp [intOf]; omega
    · clear HK HKL
      go_wp2_with fail
      go_loopw [18] (fun x wr => ∃ (i : Nat), i ≤ yl.length ∧ x = .int .i64 i ∧ Hid (0 < yl.length → Shp w6.heap.size dg yl i wr) ∧ Hid (Fr (fun k => w5.heap.size ≤ k) w5 wr)) (fun x _ => yl.length - (intOf x).toNat)
      case atStart => exact ⟨0, by omega, rfl, HSH, HF⟩
      case round =>
        clear HSH HF
        obtain ⟨i, hi, rfl, HSH, HF⟩ := hrel
        by_cases hlt2 : i < yl.length
        · obtain rfl := HDA.out (by omega)
          have HS : Hid (Shp w6.heap.size dg yl i wr) := hide (HSH.out (by omega))
          obtain ⟨s, hs⟩ := get_at hlt2
          have HSG := hide hs
          have hsl : s.ch.length ≤ 4096 := (HYO.out.may s (List.mem_of_getElem? hs)).cl
          clear HSH hs
          go_upto_region 16 with fail
          go_loopw [19] (fun x wr => ∃ (m : Nat), m ≤ s.ch.length ∧ x = .int .i64 m ∧ Hid (Shp w6.heap.size dg yl i wr) ∧ Hid (Fr (fun k => w5.heap.size ≤ k) w5 wr)) (fun x _ => s.ch.length - (intOf x).toNat)
          case atStart => exact ⟨0, by omega, rfl, HS, HF⟩
          case round =>
            clear HS HF
            obtain ⟨m, hm, rfl, HS, HF⟩ := hrel
            obtain ⟨ca, cc, c4, hch⟩ := HS.out.ch i s (Nat.le_refl _) HSG.out
            by_cases hlt3 : m < s.ch.length
            · obtain ⟨h2, rfl, hn2, hb2, hc2, hf2⟩ := hch (by omega)
              obtain ⟨u0, hu0⟩ := hc2 (m * 2) (by omega)
              obtain ⟨u1, hu1⟩ := hc2 (m * 2 + 1) (by omega)
              have HS2 : Hid (Shp w6.heap.size dg yl i ((wr.setCell ⟨h2, m * 2, none⟩ (.int .i64 77)).setCell ⟨h2, m * 2 + 1, none⟩ (.int .i64 0))) := hide ((HS.out.choice hn2).choice hn2)
              have HF2 : Hid (Fr (fun k => w5.heap.size ≤ k) w5 ((wr.setCell ⟨h2, m * 2, none⟩ (.int .i64 77)).setCell ⟨h2, m * 2 + 1, none⟩ (.int .i64 0))) := hide ((HF.out.trans (.setCell ⟨h2, m * 2, none⟩ _ (by show w5.heap.size ≤ h2; omega))).trans (.setCell ⟨h2, m * 2 + 1, none⟩ _ (by show w5.heap.size ≤ h2; omega)))
              clear hch hc2 HS HF
              go_wp2_with fail
              go_roundw
              case rel => exact ⟨m + 1, by omega, by go_num, HS2, HF2⟩
              case measure => simp [intOf]; omega
            · obtain ⟨u0, hu0⟩ := HS.out.cel (i * 5) (by omega)
              obtain ⟨u1, hu1⟩ := HS.out.cel (i * 5 + 1) (by omega)
              obtain ⟨u2, hu2⟩ := HS.out.cel (i * 5 + 2) (by omega)
              obtain ⟨u3, hu3⟩ := HS.out.cel (i * 5 + 3) (by omega)
              have hfz := HS.out.frz
              have hge := HS.out.lo
              have HS2 : Hid (Shp w6.heap.size dg yl (i + 1) (((((wr.setCell ⟨dg, i * 5, none⟩ (.int .i64 0)).setCell ⟨dg, i * 5 + 1, none⟩ (.int .i64 77)).setCell ⟨dg, i * 5 + 2, none⟩ (.int .i64 0)).setCell ⟨dg, i * 5 + 3, none⟩ (.int .i64 0)).setCell ⟨dg, i * 5 + 4, none⟩ (.slice none 0 0))) := hide (((((HS.out.next.step (m := 0) (by decide)).step (m := 1) (by decide)).step (m := 2) (by decide)).step (m := 3) (by decide)).step (m := 4) (by decide))
              have HF2 : Hid (Fr (fun k => w5.heap.size ≤ k) w5 (((((wr.setCell ⟨dg, i * 5, none⟩ (.int .i64 0)).setCell ⟨dg, i * 5 + 1, none⟩ (.int .i64 77)).setCell ⟨dg, i * 5 + 2, none⟩ (.int .i64 0)).setCell ⟨dg, i * 5 + 3, none⟩ (.int .i64 0)).setCell ⟨dg, i * 5 + 4, none⟩ (.slice none 0 0))) := hide (HF.out.trans (((((Fr.setCell (Z := fun k => w5.heap.size ≤ k) ⟨dg, i * 5, none⟩ _ (by show w5.heap.size ≤ dg; omega)).trans (.setCell ⟨dg, i * 5 + 1, none⟩ _ (by show w5.heap.size ≤ dg; omega))).trans (.setCell ⟨dg, i * 5 + 2, none⟩ _ (by show w5.heap.size ≤ dg; omega))).trans (.setCell ⟨dg, i * 5 + 3, none⟩ _ (by show w5.heap.size ≤ dg; omega))).trans (.setCell ⟨dg, i * 5 + 4, none⟩ _ (by show w5.heap.size ≤ dg; omega))))
              clear HS HF
              go_wp2_with fail
              go_roundw
              case rel => exact ⟨i + 1, by omega, by go_num, hide fun _ => HS2.out, HF2⟩
              case measure => simp [intOf]; omega
        · have hkf : ∀ q, q < w5.heap.size → wr.heap[q]? = w5.heap[q]? := fun q hq => HF.out.block q hq (by omega)
          have HX := hide (owns_keep HX5.out fun q hq => hkf q (owns_lt HX5.out hq))
          have HP := hide (owns_keep HP5.out fun q hq => hkf q (owns_lt HP5.out hq))
          have C1 : Hid (Calls Try.prog 14 #[.slice xa xs.length xc, .slice pa xs.length pc] wr fun e w' => e = .returned (.bool true) ∧ Below wr.heap.size wr w') := hide (by
            have := same_any xa pa xs.length xc xs.length pc xs xs wr rfl rfl (by omega) (row_of_owns HX.out HXB.out).1 (row_of_owns HP.out HXB.out).1
            rwa [decide_eq_true rfl] at this)
          have HY := hide (HY5.out.keep fun q hq => hkf q (Nat.lt_of_lt_of_le hq HS5.out))
          have HQ := hide (HQ5.out.keep hkf)
          have HBF : Hid (Below w.heap.size w wr) := hide (HB5.out.trans (HF.out.below fun q hq => ⟨Nat.lt_of_lt_of_le hq HB5.out.size, by have := HB5.out.size; omega⟩))
          have hsz5 : w5.heap.size ≤ wr.heap.size := HF.out.size
          have hs5 := HS5.out
          have hs4 := HS4.out
          clear HX HP HF HSH
          go_wp2_with (first
            | (go_at_call 14; refine C1.out.mono ?_; rintro _ w8 ⟨rfl, hb8⟩; have HB8 := hide (HBF.out.trans (hb8.mono HBF.out.size)); have C9 := hide (sameSteps_yes (c := yc) (d := qc) (HY.out.keep fun q hq => hb8.block q (by omega)) (HQ.out.keep fun q hq => hb8.block q (by omega)) (by have := hb8.size; omega) (by have := hb8.size; omega) (by omega)); clear hb8)
            | (go_at_call 15; refine C9.out.mono ?_; rintro _ w9 ⟨rfl, hb9⟩; have HB9 := hide (HB8.out.trans (hb9.mono HB8.out.size)); clear hb9))
          go_ret
          exact ⟨rfl, HB9.out⟩
end Go.Proofs.Ytagpdceaononkaa
