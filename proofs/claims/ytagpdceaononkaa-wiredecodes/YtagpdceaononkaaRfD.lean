/- The document's Decode. -/
import Derived.Test.YtagpdceaononkaaRfQ
import Derived.Test.YtagpdceaononkaaRfE
import Derived.Test.YtagpdceaononkaaWAlv
namespace Go.Proofs.Ytagpdceaononkaa
open Go.RowKit

def restM (zs : List Int) (L : List StM × Nat) : Er (List StM) := sumM zs L.2 >>= fun q => if q < zs.length then .error (9, (q : Int)) else .ok L.1
theorem whole_as {zs : List Int} : wholeM zs = markM zs 4 0 >>= fun _ => allM zs 4 >>= restM zs := rfl
theorem all_as {zs : List Int} {p : Nat} {G : List StM × Nat → Er (List StM)} : (allM zs p >>= G) = numM zs 65536 p >>= fun n => lstM zs n.1.toNat [] n.2 >>= G := by unfold allM; rw [bind_as]
theorem rai_as {β : Type} {zs : List Int} {most : Int} {p : Nat} {f : Int × Nat → Er β} : (raiM zs most p >>= f) = numM zs (most + 1) p >>= fun x => f (x.1 - 1, x.2) := by unfold raiM; rw [bind_as]; rfl
theorem stp_as {β : Type} {zs : List Int} {p : Nat} {G : StM × Nat → Er β} : (stpM zs p >>= G) = octM zs 1 4 p >>= fun t => numM zs 4095 t.2 >>= fun l => octM zs 1 5 l.2 >>= fun h => numM zs 4096 h.2 >>= fun r => numM zs 4096 r.2 >>= fun n => chsM zs n.1.toNat [] n.2 >>= fun c => G (⟨t.1, l.1, h.1, r.1 - 1, c.1⟩, c.2) := by
  unfold stpM
  simp only [bind_as, rai_as]
  rfl
theorem chs_as {β : Type} {zs : List Int} {k n : Nat} {acc : List (Int × Int)} {q : Nat} {g : List (Int × Int) × Nat → Er β} (h : k < n) : (chsM zs (n - k) acc q >>= g) = numM zs 16 q >>= fun x => numM zs 4096 x.2 >>= fun y => chsM zs (n - (k + 1)) (acc ++ [(x.1 - 1, y.1 - 1)]) y.2 >>= g := by
  rw [chs_more h]
  simp only [bind_as, rai_as]
  rfl
theorem lst_as {β : Type} {zs : List Int} {k n : Nat} {acc : List StM} {q : Nat} {g : List StM × Nat → Er β} (h : k < n) : (lstM zs (n - k) acc q >>= g) = stpM zs q >>= fun s => lstM zs (n - (k + 1)) (acc ++ [s.1]) s.2 >>= g := by rw [lst_more h, bind_as]
theorem opV_num {zs : List Int} (hz : ∀ z ∈ zs, 0 ≤ z ∧ z ≤ 255) {most : Int} (h0 : 0 ≤ most) (h1 : most < 18446744073709551616) {σ : Er Nat} : 0 ≤ opV (numM zs most) σ ∧ opV (numM zs most) σ ≤ most := by
  cases σ with
  | error c => exact ⟨Int.le_refl _, h0⟩
  | ok p =>
    cases hm : numM zs most p with
    | error c => rw [opV_no hm]; exact ⟨Int.le_refl _, h0⟩
    | ok x => rw [opV_ok hm]; exact num_in hz h1 (q := x.2) (z := x.1) hm
theorem opV_oct {zs : List Int} (hz : ∀ z ∈ zs, 0 ≤ z ∧ z ≤ 255) {a b : Int} {σ : Er Nat} : 0 ≤ opV (octM zs a b) σ ∧ opV (octM zs a b) σ ≤ 255 := by
  cases σ with
  | error c => exact ⟨Int.le_refl _, by show (0 : Int) ≤ 255; decide⟩
  | ok p =>
    cases hm : octM zs a b p with
    | error c => rw [opV_no hm]; decide
    | ok x =>
      rw [opV_ok hm]
      have h := (oct_iff (c := x.1) (q := x.2)).1 hm
      have hl := h.1
      have : x.1 ∈ zs := by
        have h3 := hl.2.2
        have : x.1 ∈ (zs.drop p).take 1 := by simp only [List.length_singleton] at h3; rw [h3]; simp
        exact List.mem_of_mem_drop (List.mem_of_mem_take this)
      exact hz _ this
/-- A step while it is read: its own box, the reader. -/
structure Sq (R : Nat) (ba : Option Addr) (bc : Nat) (zs : List Int) (w : World) (σ : Er Nat) (vs : List Value) (wr : World) : Prop where
  rd : Rq R ba bc zs σ wr
  b1 : Fx w.heap.size 52 vs wr
  fr : Fr (fun k => k = R ∨ w.heap.size ≤ k) w wr
section
variable {R : Nat} {ba : Option Addr} {bc : Nat} {zs : List Int} {w wr w2 : World} {σ τ : Er Nat} {vs : List Value}
theorem Sq.go (h : Sq R ba bc zs w σ vs wr) (hR : R < w.heap.size) (hr : Rq R ba bc zs τ w2) (hf : Fr (fun k => k = R) wr w2) : Sq R ba bc zs w τ vs w2 :=
  ⟨hr, h.b1.keep (hf.block _ h.b1.lt (by omega)), h.fr.trans (hf.mono fun _ _ e => .inl e)⟩
theorem Sq.set (h : Sq R ba bc zs w σ vs wr) (hR : R < w.heap.size) (i : Nat) (v : Value) : Sq R ba bc zs w σ (vs.set i v) (wr.setCell ⟨w.heap.size, i, none⟩ v) :=
  ⟨h.rd.keep fun g hg => other_set (by omega), h.b1.set i v, h.fr.trans (.setCell ⟨w.heap.size, i, none⟩ _ (.inr (Nat.le_refl _)))⟩
theorem Sq.lt (h : Sq R ba bc zs w σ vs wr) : w.heap.size < wr.heap.size := h.b1.lt
end
theorem mark_stop {zs : List Int} {k : Nat} {m : Int} {o : Er (List StM)} {g : Unit → Er (List StM)} (hk : k < 4) (hm : markB.getD k 0 = m) (h : (markM zs (4 - k) k >>= g) = o) : (opS (octM zs m m) (.ok k) = .ok (k + 1) ∧ (markM zs (4 - (k + 1)) (k + 1) >>= g) = o) ∨ ∃ c, opS (octM zs m m) (.ok k) = .error c ∧ o = .error c := by
  rw [show 4 - k = (4 - (k + 1)) + 1 by omega, markM, hm, bind_as] at h
  cases hc : octM zs m m k with
  | error c => exact .inr ⟨c, opS_no hc, by rw [hc] at h; exact h.symm⟩
  | ok x =>
    have hq : x.2 = k + 1 := (oct_iff (c := x.1) (q := x.2)).1 hc |>.1.1
    exact .inl ⟨by rw [opS_ok hc, hq], by rw [hc] at h; exact h⟩
theorem rest_ok {zs : List Int} {acc : List StM} {p : Nat} (hp : p + 4 ≤ zs.length) : restM zs (acc, p) = if (zs.drop p).take 4 = fourB (crc (zs.take p)) then (if p + 4 < zs.length then .error (9, ((p + 4 : Nat) : Int)) else .ok acc) else .error (13, (p : Int)) := by
  unfold restM sumM
  simp only
  rw [if_neg (by omega)]
  by_cases h : (zs.drop p).take 4 = fourB (crc (zs.take p))
  · rw [if_neg (by simpa using h), if_pos h]; rfl
  · rw [if_pos h, if_neg h]; rfl
theorem rest_short {zs : List Int} {acc : List StM} {p : Nat} (hp : zs.length < p + 4) : restM zs (acc, p) = .error (8, (zs.length : Int)) := by
  unfold restM sumM
  simp only
  rw [if_pos hp]
  rfl
theorem sum_step {zs : List Int} (hz : ∀ z ∈ zs, 0 ≤ z ∧ z ≤ 255) {acc : List StM} {p j : Nat} {o : Er (List StM)} (hj : j < 4) (hp : p + j ≤ zs.length) (hr : restM zs (acc, p) = o) :
    (p + j < zs.length ∧ opS (octM zs 0 255) (.ok (p + j)) = .ok (p + j + 1) ∧ opV (octM zs 0 255) (.ok (p + j)) = zs.getD (p + j) 0) ∨ (opS (octM zs 0 255) (.ok (p + j)) = .error (8, (zs.length : Int)) ∧ o = .error (8, (zs.length : Int))) := by
  by_cases hl : p + j < zs.length
  · have hm := oct_yes (zs := zs) (a := 0) (b := 255) hl (wi_iff.2 (hz _ (by simp [List.getD, hl])))
    exact .inl ⟨hl, opS_ok hm, opV_ok hm⟩
  · have he : p + j = zs.length := by omega
    have hm := oct_out (zs := zs) (a := 0) (b := 255) (p := p + j) (by omega)
    refine .inr ⟨by rw [opS_no hm, he], ?_⟩
    rw [← hr, rest_short (by omega)]
theorem Rq.head {R : Nat} {ba : Option Addr} {bc : Nat} {zs : List Int} {σ : Er Nat} {w : World} (h : Rq R ba bc zs σ w) (q : Nat) : Row w ba (zs.take q) := by
  refine ⟨fun hz => ?_, fun i => ?_⟩
  · obtain ⟨b, off, e, hc⟩ := h.row.cells (fun e => hz (by rw [e]; simp))
    refine ⟨b, off, e, fun i hi => ?_⟩
    rw [List.length_take] at hi
    rw [hc i (by omega)]
    simp [List.getD, show i < q by omega]
  · rw [List.getElem?_take]
    split
    · exact h.row.byte i
    · simp
theorem take_eq {xs ys : List Int} {j : Nat} (hx : j < xs.length) (hy : j < ys.length) (h : xs.take j = ys.take j) (he : xs.getD j 0 = ys.getD j 0) : xs.take (j + 1) = ys.take (j + 1) := by
  rw [List.take_succ_eq_append_getElem hx, List.take_succ_eq_append_getElem hy, h]
  simp [List.getD, hx, hy] at he
  rw [he]
set_option maxRecDepth 100000 in
set_option maxHeartbeats 51200000 in
theorem rdecode_any {w : World} {ba : Option Addr} {bc : Nat} {zs : List Int} (hrow : Row w ba zs) (hcap : zs.length ≤ bc) (hlen : zs.length ≤ 140737488351232) :
    Calls Try.prog 19 #[.slice ba zs.length bc] w fun e w' => Decd zs w e w' ∧ Below w.heap.size w w' := by
  obtain ⟨i0, hi0, hz0, hz1, hz2⟩ := info_parts infoB
  obtain ⟨iC, hiC, zC0, zC1, zC2⟩ := info_parts' infoCh
  obtain ⟨iS, hiS, zS0, zS1, zS2⟩ := info_parts' infoSt
  obtain ⟨o, ho⟩ : ∃ o, wholeM zs = o := ⟨_, rfl⟩
  have HW := hide ho
  have HO : Hid ((markM zs (4 - 0) 0 >>= fun _ => allM zs 4 >>= restM zs) = o) := hide (by rw [← ho]; rfl)
  have hb := below_new w (.cells #[.slice ba zs.length bc, .int .i64 0, .int .i64 0] 72)
  have HB := hide hb
  have HD : Hid (Rq w.heap.size ba bc zs (.ok 0) (w.alloc (.cells #[.slice ba zs.length bc, .int .i64 0, .int .i64 0] 72))) := hide ⟨heap_alloc_new w _, Row.below hrow hb (Nat.le_refl _), fun b off e hz => by
    obtain ⟨b', off', e', hc⟩ := hrow.cells hz
    rw [e] at e'
    cases e'
    exact Row.lt hc hz, hcap, hlen, Nat.zero_le _⟩
  have HBY := hide HD.out.bytes
  clear hrow hb ho
  go_enter Try.func19, Try.ntmps19
  go_upto_region 2 with fail
  generalize w.alloc (.cells #[.slice ba zs.length bc, .int .i64 0, .int .i64 0] 72) = W at *
  go_wp2_with fail
  go_loopw [6] (fun x wr => ∃ (k : Nat) (σ : Er Nat), k ≤ 4 ∧ x = .int .i64 k ∧ Hid (Rq w.heap.size ba bc zs σ wr) ∧ Hid ((σ = .ok k ∧ (markM zs (4 - k) k >>= fun _ => allM zs 4 >>= restM zs) = o) ∨ ∃ c, σ = .error c ∧ o = .error c) ∧ Hid (Below w.heap.size w wr)) (fun x _ => 4 - (intOf x).toNat)
  case atStart => exact ⟨0, .ok 0, by omega, rfl, HD, hide (.inl ⟨rfl, HO.out⟩), HB⟩
  case round =>
    clear HD HO HB
    obtain ⟨k, σ, hk, rfl, HD, HO, HB⟩ := hrel
    by_cases hlt : k < 4
    · have hcs : k = 0 ∨ k = 1 ∨ k = 2 ∨ k = 3 := by omega
      rcases hcs with rfl | rfl | rfl | rfl
      · have hby : (({ data := #[108, 120, 100, 1] } : ByteArray)[0]'(by decide)).toNat = 108 := by decide
        have CO := hide (byte1_any (HD.out.below (below_drewN wr 1)) (a := 108) (b := 108))
        have HN : Hid ((opS (octM zs 108 108) σ = .ok (0 + 1) ∧ (markM zs (4 - (0 + 1)) (0 + 1) >>= fun _ => allM zs 4 >>= restM zs) = o) ∨ ∃ c, opS (octM zs 108 108) σ = .error c ∧ o = .error c) := hide (by
          rcases HO.out with ⟨rfl, h⟩ | ⟨c, rfl, rfl⟩
          · exact mark_stop (by decide) rfl h
          · exact .inr ⟨c, rfl, rfl⟩)
        clear HO
        go_upto_region 5 with fail
        go_region_with (go_at_call 30; refine CO.out.mono ?_; rintro _ w2 ⟨rfl, hd, hf⟩; have HD2 := hide hd; have HB2 := hide (HB.out.trans (((below_drewN wr 1).mono HB.out.size).trans (hf.below fun q hq => ⟨Nat.lt_of_lt_of_le hq HB.out.size, by omega⟩))); clear hd hf)
        all_goals
          go_wp2_with fail
          go_roundw
          case rel => exact ⟨0 + 1, _, by omega, by go_num, HD2, HN, HB2⟩
          case measure => simp [intOf]
      · have hby : (({ data := #[108, 120, 100, 1] } : ByteArray)[1]'(by decide)).toNat = 120 := by decide
        have CO := hide (byte1_any (HD.out.below (below_drewN wr 1)) (a := 120) (b := 120))
        have HN : Hid ((opS (octM zs 120 120) σ = .ok (1 + 1) ∧ (markM zs (4 - (1 + 1)) (1 + 1) >>= fun _ => allM zs 4 >>= restM zs) = o) ∨ ∃ c, opS (octM zs 120 120) σ = .error c ∧ o = .error c) := hide (by
          rcases HO.out with ⟨rfl, h⟩ | ⟨c, rfl, rfl⟩
          · exact mark_stop (by decide) rfl h
          · exact .inr ⟨c, rfl, rfl⟩)
        clear HO
        go_upto_region 5 with fail
        go_region_with (go_at_call 30; refine CO.out.mono ?_; rintro _ w2 ⟨rfl, hd, hf⟩; have HD2 := hide hd; have HB2 := hide (HB.out.trans (((below_drewN wr 1).mono HB.out.size).trans (hf.below fun q hq => ⟨Nat.lt_of_lt_of_le hq HB.out.size, by omega⟩))); clear hd hf)
        all_goals
          go_wp2_with fail
          go_roundw
          case rel => exact ⟨1 + 1, _, by omega, by go_num, HD2, HN, HB2⟩
          case measure => simp [intOf]
      · have hby : (({ data := #[108, 120, 100, 1] } : ByteArray)[2]'(by decide)).toNat = 100 := by decide
        have CO := hide (byte1_any (HD.out.below (below_drewN wr 1)) (a := 100) (b := 100))
        have HN : Hid ((opS (octM zs 100 100) σ = .ok (2 + 1) ∧ (markM zs (4 - (2 + 1)) (2 + 1) >>= fun _ => allM zs 4 >>= restM zs) = o) ∨ ∃ c, opS (octM zs 100 100) σ = .error c ∧ o = .error c) := hide (by
          rcases HO.out with ⟨rfl, h⟩ | ⟨c, rfl, rfl⟩
          · exact mark_stop (by decide) rfl h
          · exact .inr ⟨c, rfl, rfl⟩)
        clear HO
        go_upto_region 5 with fail
        go_region_with (go_at_call 30; refine CO.out.mono ?_; rintro _ w2 ⟨rfl, hd, hf⟩; have HD2 := hide hd; have HB2 := hide (HB.out.trans (((below_drewN wr 1).mono HB.out.size).trans (hf.below fun q hq => ⟨Nat.lt_of_lt_of_le hq HB.out.size, by omega⟩))); clear hd hf)
        all_goals
          go_wp2_with fail
          go_roundw
          case rel => exact ⟨2 + 1, _, by omega, by go_num, HD2, HN, HB2⟩
          case measure => simp [intOf]
      · have hby : (({ data := #[108, 120, 100, 1] } : ByteArray)[3]'(by decide)).toNat = 1 := by decide
        have CO := hide (byte1_any (HD.out.below (below_drewN wr 1)) (a := 1) (b := 1))
        have HN : Hid ((opS (octM zs 1 1) σ = .ok (3 + 1) ∧ (markM zs (4 - (3 + 1)) (3 + 1) >>= fun _ => allM zs 4 >>= restM zs) = o) ∨ ∃ c, opS (octM zs 1 1) σ = .error c ∧ o = .error c) := hide (by
          rcases HO.out with ⟨rfl, h⟩ | ⟨c, rfl, rfl⟩
          · exact mark_stop (by decide) rfl h
          · exact .inr ⟨c, rfl, rfl⟩)
        clear HO
        go_upto_region 5 with fail
        go_region_with (go_at_call 30; refine CO.out.mono ?_; rintro _ w2 ⟨rfl, hd, hf⟩; have HD2 := hide hd; have HB2 := hide (HB.out.trans (((below_drewN wr 1).mono HB.out.size).trans (hf.below fun q hq => ⟨Nat.lt_of_lt_of_le hq HB.out.size, by omega⟩))); clear hd hf)
        all_goals
          go_wp2_with fail
          go_roundw
          case rel => exact ⟨3 + 1, _, by omega, by go_num, HD2, HN, HB2⟩
          case measure => simp [intOf]
    · have hk4 : k = 4 := by omega
      subst hk4
      have HR : Hid ((σ >>= fun p => allM zs p >>= restM zs) = o) := hide (by
        rcases HO.out with ⟨rfl, h⟩ | ⟨c, rfl, rfl⟩
        · exact h
        · rfl)
      have HR0 : Hid ((σ >>= fun p => numM zs 65536 p >>= fun n => lstM zs n.1.toNat [] n.2 >>= restM zs) = o) := hide (by have := HR.out; simp only [all_as] at this; exact this)
      have CN := hide (rnum_any HD.out (most := 65536) (by omega) (by omega))
      have HR1 := hide (op_next HR0.out)
      obtain ⟨nv0, nv1⟩ := opV_num HBY.out (most := 65536) (by decide) (by decide) (σ := σ)
      clear HO HR HR0
      generalize opS (numM zs 65536) σ = σ1 at *
      generalize opV (numM zs 65536) σ = nv at *
      obtain ⟨n, rfl⟩ := Int.eq_ofNat_of_zero_le nv0
      have HR2 : Hid ((σ1 >>= fun p => lstM zs (n - 0) [] p >>= restM zs) = o) := hide (by have := HR1.out; rw [Nat.sub_zero]; exact this)
      clear HR1 nv0
      go_upto_region 9 with (go_at_call 31; refine CN.out.mono ?_; rintro _ w2 ⟨rfl, hd, hf⟩; have HD2 := hide hd; have HB2 := hide (HB.out.trans (hf.below fun q hq => ⟨Nat.lt_of_lt_of_le hq HB.out.size, by omega⟩)); clear hd hf)
      clear CN HD HB
      go_loopw [8, 9] (fun y x wr => ∃ (i : Nat) (acc : List StM) (a : Option Addr) (c : Nat) (σ : Er Nat), i ≤ n ∧ x = .int .i64 i ∧ y = .slice a acc.length c ∧ Hid (acc.length = i) ∧ Hid (Gs (w.heap.size + 1) acc (.slice a acc.length c) wr) ∧ Hid (Rq w.heap.size ba bc zs σ wr) ∧ Hid ((σ >>= fun p => lstM zs (n - i) acc p >>= restM zs) = o) ∧ Hid (Below w.heap.size w wr)) (fun _ x _ => n - (intOf x).toNat)
      case atStart => exact ⟨0, [], none, 0, σ1, by omega, rfl, rfl, rfl, hide Gs.nil, HD2, HR2, HB2⟩
      case round =>
        clear HD2 HR2 HB2
        obtain ⟨i, acc, a, c, σ, hi, rfl, rfl, HAl, HG, HD, HR, HB⟩ := hrel
        by_cases hgo : i < n ∧ errS σ = 0
        · obtain ⟨wo, rfl⟩ : ∃ wo, wo = wr := ⟨_, rfl⟩
          obtain ⟨hi2, he⟩ := hgo
          obtain ⟨p, rfl⟩ : ∃ p, σ = .ok p := by
            cases σ with
            | ok p => exact ⟨p, rfl⟩
            | error c => exact absurd he HD.out.ok
          have c2 : wo.cell? ⟨w.heap.size, 2, none⟩ = some (.int .i64 0) := HD.out.bx.get rfl
          have hRw : w.heap.size < wo.heap.size := HD.out.lt
          obtain ⟨G, hG⟩ : ∃ G : StM × Nat → Er (List StM), G = fun s => lstM zs (n - (i + 1)) (acc ++ [s.1]) s.2 >>= restM zs := ⟨_, rfl⟩
          have HGd := hide hG
          have HR0 : Hid (((.ok p : Er Nat) >>= fun q => octM zs 1 4 q >>= fun t => numM zs 4095 t.2 >>= fun l => octM zs 1 5 l.2 >>= fun h => numM zs 4096 h.2 >>= fun r => numM zs 4096 r.2 >>= fun n => chsM zs n.1.toNat [] n.2 >>= fun c => G (⟨t.1, l.1, h.1, r.1 - 1, c.1⟩, c.2)) = o) := hide (by
            have h5 : (lstM zs (n - i) acc p >>= restM zs) = o := HR.out
            rw [lst_as hi2, stp_as] at h5
            rw [hG]
            exact h5)
          clear hG HR he
          have hA := below_new wo (.cells #[.int .i64 0, .int .i64 0, .int .i64 0, .int .i64 0, .slice none 0 0] 52)
          have HS0 : Hid (Sq w.heap.size ba bc zs wo (.ok p) [.int .i64 0, .int .i64 0, .int .i64 0, .int .i64 0, .slice none 0 0] (wo.alloc (.cells #[.int .i64 0, .int .i64 0, .int .i64 0, .int .i64 0, .slice none 0 0] 52))) := hide ⟨HD.out.below hA, heap_alloc_new wo _, .of_below hA⟩
          clear hA HD
          go_upto_region 12 with fail
          generalize wo.alloc (.cells #[.int .i64 0, .int .i64 0, .int .i64 0, .int .i64 0, .slice none 0 0] 52) = X9 at *
          clear c2
          have CN := hide (byte1_any HS0.out.rd (a := 1) (b := 4))
          obtain ⟨bt0, bt1⟩ := opV_oct HBY.out (a := 1) (b := 4) (σ := .ok p)
          have HR1 : Hid ((opS (octM zs 1 4) (.ok p) >>= fun q => numM zs 4095 q >>= fun l => octM zs 1 5 l.2 >>= fun h => numM zs 4096 h.2 >>= fun r => numM zs 4096 r.2 >>= fun n => chsM zs n.1.toNat [] n.2 >>= fun c => G (⟨(opV (octM zs 1 4) (.ok p)), l.1, h.1, r.1 - 1, c.1⟩, c.2)) = o) := hide (op_next HR0.out)
          clear HR0
          generalize opS (octM zs 1 4) (.ok p) = σ1 at *
          generalize opV (octM zs 1 4) (.ok p) = tg at *
          have hwt : IntKind.i64.wrap tg = tg := by rw [IntKind.wrap_i64]; omega
          go_upto_region 13 with (go_at_call 30; refine CN.out.mono ?_; rintro _ w2 ⟨rfl, hd, hf⟩; have HSx := hide (HS0.out.go hRw hd hf); have k0 := HSx.out.b1.get (i := 0) rfl; have f0 := HSx.out.b1.frz 0; clear hd hf)
          have HS1 := hide (HSx.out.set hRw 0 (.int .i64 tg))
          simp only [List.set_cons_zero] at HS1
          clear CN HS0 HSx k0 f0
          generalize w2.setCell ⟨wo.heap.size, 0, none⟩ (.int .i64 tg) = X0 at *
          have CN := hide (rnum_any HS1.out.rd (most := 4095) (by omega) (by omega))
          skip
          have HR2 : Hid ((opS (numM zs 4095) σ1 >>= fun q => octM zs 1 5 q >>= fun h => numM zs 4096 h.2 >>= fun r => numM zs 4096 r.2 >>= fun n => chsM zs n.1.toNat [] n.2 >>= fun c => G (⟨tg, (opV (numM zs 4095) σ1), h.1, r.1 - 1, c.1⟩, c.2)) = o) := hide (op_next HR1.out)
          clear HR1
          generalize opS (numM zs 4095) σ1 = σ2 at *
          generalize opV (numM zs 4095) σ1 = lt at *
          skip
          go_upto_region 14 with (go_at_call 31; refine CN.out.mono ?_; rintro _ w2 ⟨rfl, hd, hf⟩; have HSx := hide (HS1.out.go hRw hd hf); have k0 := HSx.out.b1.get (i := 1) rfl; have f0 := HSx.out.b1.frz 1; clear hd hf)
          have HS2 := hide (HSx.out.set hRw 1 (.int .i64 lt))
          simp only [List.set_cons_zero, List.set_cons_succ] at HS2
          clear CN HS1 HSx k0 f0
          generalize w2.setCell ⟨wo.heap.size, 1, none⟩ (.int .i64 lt) = X1 at *
          have CN := hide (byte1_any HS2.out.rd (a := 1) (b := 5))
          obtain ⟨bh0, bh1⟩ := opV_oct HBY.out (a := 1) (b := 5) (σ := σ2)
          have HR3 : Hid ((opS (octM zs 1 5) σ2 >>= fun q => numM zs 4096 q >>= fun r => numM zs 4096 r.2 >>= fun n => chsM zs n.1.toNat [] n.2 >>= fun c => G (⟨tg, lt, (opV (octM zs 1 5) σ2), r.1 - 1, c.1⟩, c.2)) = o) := hide (op_next HR2.out)
          clear HR2
          generalize opS (octM zs 1 5) σ2 = σ3 at *
          generalize opV (octM zs 1 5) σ2 = hw at *
          have hwh : IntKind.i64.wrap hw = hw := by rw [IntKind.wrap_i64]; omega
          go_upto_region 15 with (go_at_call 30; refine CN.out.mono ?_; rintro _ w2 ⟨rfl, hd, hf⟩; have HSx := hide (HS2.out.go hRw hd hf); have k0 := HSx.out.b1.get (i := 2) rfl; have f0 := HSx.out.b1.frz 2; clear hd hf)
          have HS3 := hide (HSx.out.set hRw 2 (.int .i64 hw))
          simp only [List.set_cons_zero, List.set_cons_succ] at HS3
          clear CN HS2 HSx k0 f0
          generalize w2.setCell ⟨wo.heap.size, 2, none⟩ (.int .i64 hw) = X2 at *
          have CN := hide (rnum_any HS3.out.rd (most := 4096) (by omega) (by omega))
          obtain ⟨br0, br1⟩ := opV_num HBY.out (most := 4096) (by decide) (by decide) (σ := σ3)
          have HR4 : Hid ((opS (numM zs 4096) σ3 >>= fun q => numM zs 4096 q >>= fun n => chsM zs n.1.toNat [] n.2 >>= fun c => G (⟨tg, lt, hw, (opV (numM zs 4096) σ3) - 1, c.1⟩, c.2)) = o) := hide (op_next HR3.out)
          clear HR3
          generalize opS (numM zs 4096) σ3 = σ4 at *
          generalize opV (numM zs 4096) σ3 = ru at *
          have hwr : IntKind.i64.wrap (ru - 1) = ru - 1 := by rw [IntKind.wrap_i64]; omega
          go_upto_region 16 with (go_at_call 31; refine CN.out.mono ?_; rintro _ w2 ⟨rfl, hd, hf⟩; have HSx := hide (HS3.out.go hRw hd hf); have k0 := HSx.out.b1.get (i := 3) rfl; have f0 := HSx.out.b1.frz 3; clear hd hf)
          have HS4 := hide (HSx.out.set hRw 3 (.int .i64 (ru - 1)))
          simp only [List.set_cons_zero, List.set_cons_succ] at HS4
          clear CN HS3 HSx k0 f0
          generalize w2.setCell ⟨wo.heap.size, 3, none⟩ (.int .i64 (ru - 1)) = X3 at *
          have CN := hide (rnum_any HS4.out.rd (most := 4096) (by omega) (by omega))
          obtain ⟨bk0, bk1⟩ := opV_num HBY.out (most := 4096) (by decide) (by decide) (σ := σ4)
          have HR5 : Hid ((opS (numM zs 4096) σ4 >>= fun q => chsM zs (opV (numM zs 4096) σ4).toNat [] q >>= fun c => G (⟨tg, lt, hw, ru - 1, c.1⟩, c.2)) = o) := hide (op_next HR4.out)
          clear HR4
          generalize opS (numM zs 4096) σ4 = σ5 at *
          generalize opV (numM zs 4096) σ4 = kv at *
          skip
          go_upto_region 17 with (go_at_call 31; refine CN.out.mono ?_; rintro _ w2 ⟨rfl, hd, hf⟩; have HS5 := hide (HS4.out.go hRw hd hf); clear hd hf)
          clear CN HS4
          obtain ⟨kn, rfl⟩ := Int.eq_ofNat_of_zero_le bk0
          have HR6 : Hid ((σ5 >>= fun q => chsM zs (kn - 0) [] q >>= fun c => G (⟨tg, lt, hw, ru - 1, c.1⟩, c.2)) = o) := hide (by have := HR5.out; rw [Nat.sub_zero]; exact this)
          clear HR5 bk0
          go_upto_region 18 with fail
          go_loopw [12] (fun x wq => ∃ (j : Nat) (cl : List (Int × Int)) (a2 : Option Addr) (d2 : Nat) (τ : Er Nat), j ≤ kn ∧ x = .int .i64 j ∧ Hid (cl.length = j) ∧ Hid (wq.ownsRow (wo.heap.size + 1) 54 2 (.slice a2 cl.length d2) cl.length (chL cl)) ∧ Hid (Sq w.heap.size ba bc zs wo τ [.int .i64 tg, .int .i64 lt, .int .i64 hw, .int .i64 (ru - 1), .slice a2 cl.length d2] wq) ∧ Hid ((τ >>= fun q => chsM zs (kn - j) cl q >>= fun c => G (⟨tg, lt, hw, ru - 1, c.1⟩, c.2)) = o)) (fun x _ => kn - (intOf x).toNat)
          case atStart => exact ⟨0, [], none, 0, σ5, by omega, rfl, rfl, hide ⟨rfl, .inl ⟨rfl, rfl⟩⟩, HS5, HR6⟩
          case round =>
            clear HS5 HR6
            obtain ⟨j, cl, a2, d2, τ, hj, rfl, HCl, HRow, HS, HR⟩ := hrel
            have e2 := HS.out.rd.bx.get (i := 2) rfl
            by_cases hgo2 : j < kn ∧ errS τ = 0
            · obtain ⟨hj2, he2⟩ := hgo2
              obtain ⟨p2, rfl⟩ : ∃ p, τ = .ok p := by
                cases τ with
                | ok p => exact ⟨p, rfl⟩
                | error c => exact absurd he2 HS.out.rd.ok
              change _ = some (Value.int .i64 0) at e2
              have HR0 : Hid (((.ok p2 : Er Nat) >>= fun q => numM zs 16 q >>= fun x => numM zs 4096 x.2 >>= fun y => chsM zs (kn - (j + 1)) (cl ++ [(x.1 - 1, y.1 - 1)]) y.2 >>= fun c => G (⟨tg, lt, hw, ru - 1, c.1⟩, c.2)) = o) := hide (by
                have h5 : (chsM zs (kn - j) cl p2 >>= fun c => G (⟨tg, lt, hw, ru - 1, c.1⟩, c.2)) = o := HR.out
                rw [chs_as hj2] at h5
                exact h5)
              clear HR he2
              have CN := hide (rnum_any HS.out.rd (most := 16) (by omega) (by omega))
              obtain ⟨bp0, bp1⟩ := opV_num HBY.out (most := 16) (by decide) (by decide) (σ := .ok p2)
              have HR1 : Hid ((opS (numM zs 16) (.ok p2) >>= fun q => numM zs 4096 q >>= fun y => chsM zs (kn - (j + 1)) (cl ++ [(opV (numM zs 16) (.ok p2) - 1, y.1 - 1)]) y.2 >>= fun c => G (⟨tg, lt, hw, ru - 1, c.1⟩, c.2)) = o) := hide (op_next HR0.out)
              clear HR0
              generalize opS (numM zs 16) (.ok p2) = τ1 at *
              generalize opV (numM zs 16) (.ok p2) = pv at *
              have hwp : IntKind.i64.wrap (pv - 1) = pv - 1 := by rw [IntKind.wrap_i64]; omega
              go_upto_region 21 with (go_at_call 31; refine CN.out.mono ?_; rintro _ w2 ⟨rfl, hd, hf⟩; have HS1 := hide (HS.out.go hRw hd hf); have HRow1 := hide (owns_keep HRow.out fun g hg => hf.block g (owns_lt HRow.out hg) (by have := (HRow.out.lt g hg).1; omega)); clear hd hf)
              clear CN HS HRow e2
              have CN := hide (rnum_any HS1.out.rd (most := 4096) (by omega) (by omega))
              obtain ⟨bq0, bq1⟩ := opV_num HBY.out (most := 4096) (by decide) (by decide) (σ := τ1)
              have HR2 : Hid ((opS (numM zs 4096) τ1 >>= fun q => chsM zs (kn - (j + 1)) (cl ++ [(pv - 1, opV (numM zs 4096) τ1 - 1)]) q >>= fun c => G (⟨tg, lt, hw, ru - 1, c.1⟩, c.2)) = o) := hide (op_next HR1.out)
              clear HR1
              generalize opS (numM zs 4096) τ1 = τ2 at *
              generalize opV (numM zs 4096) τ1 = qv at *
              have hwq : IntKind.i64.wrap (qv - 1) = qv - 1 := by rw [IntKind.wrap_i64]; omega
              go_upto_region 22 with (go_at_call 31; refine CN.out.mono ?_; rintro _ w3 ⟨rfl, hd, hf⟩; have HS2 := hide (HS1.out.go hRw hd hf); have HR3 := hide (owns_keep HRow1.out fun g hg => hf.block g (owns_lt HRow1.out hg) (by have := (HRow1.out.lt g hg).1; omega)); clear hd hf)
              clear CN HS1 HRow1
              have hal : cl.length ≤ 4096 := by rw [HCl.out]; omega
              have hlt2 := HS2.out.lt
              have k4 := HS2.out.b1.get (i := 4) rfl
              have hA := below_new w3 (.cells #[.int .i64 (pv - 1), .int .i64 (qv - 1)] 54)
              have HRA := hide (owns_keep HR3.out fun g hg => hA.block g (owns_lt HR3.out hg))
              have hne : Value.ownBlock (.slice a2 cl.length d2) ≠ some wo.heap.size := fun e => by have := (HR3.out.lt _ e).1; omega
              have hneR : ∀ g, g ≤ w.heap.size → Value.ownBlock (.slice a2 cl.length d2) ≠ some g := fun g hg e => by have := (HR3.out.lt _ e).1; omega
              have HNE := hide (And.intro hne hneR)
              clear hA hne hneR
              go_upto_region 19 with (at_builtin; go_must (refine wpList_append_two _ rfl _ _ 50 rfl (wo.heap.size + 1) 54 iC _ 2 16 Try.underlying50 hiC zC0 zC1 zC2 rfl (by decide) _ _ (chL cl) rfl HRA.out ⟨w3.heap.size, 0, none⟩ 1 [.int .i64 (pv - 1), .int .i64 (qv - 1)] rfl rfl (news_at rfl) (by intro u hu; simp at hu; rcases hu with rfl | rfl <;> rfl) (by unfold maxLen; omega) (by omega) (by simp; omega) ?_); intro g4 cap4 w4 hown4 hg4; have hg5 : (Value.ownBlock (.slice a2 cl.length d2) = some g4 ∧ (w3.alloc (.cells #[.int .i64 (pv - 1), .int .i64 (qv - 1)] 54)).grownBy w4 (some g4)) ∨ (g4 = w3.heap.size + 1 ∧ (w3.alloc (.cells #[.int .i64 (pv - 1), .int .i64 (qv - 1)] 54)).grownBy w4 none) := (by rcases hg4 with h | ⟨h1, h2⟩; exact .inl h; exact .inr ⟨by simpa using h1, h2⟩); have HG5 := hide hg5; have HO4 := hide hown4; have j4 : w4.cell? ⟨wo.heap.size, 4, none⟩ = some (.slice a2 cl.length d2) := (HS2.out.b1.keep (grown_old rfl hg5 (by omega) HNE.out.1)).get rfl; have j5 : w4.frozen? ⟨wo.heap.size, 4, none⟩ = false := (HS2.out.b1.keep (grown_old rfl hg5 (by omega) HNE.out.1)).frz 4; clear hown4 hg4 hg5)
              have HS4 : Hid (Sq w.heap.size ba bc zs wo τ2 [.int .i64 tg, .int .i64 lt, .int .i64 hw, .int .i64 (ru - 1), .slice a2 cl.length d2] w4) := hide ⟨HS2.out.rd.keep fun g hg => grown_old rfl HG5.out (by omega) (HNE.out.2 g hg), HS2.out.b1.keep (grown_old rfl HG5.out (by omega) HNE.out.1), HS2.out.fr.trans (grown_fr rfl HG5.out fun g e => .inr (by have := (HR3.out.lt g e).1; omega))⟩
              have HS5 := hide (HS4.out.set hRw 4 (.slice (some ⟨g4, 0, none⟩) (cl.length + 1) cap4))
              simp only [List.set_cons_zero, List.set_cons_succ] at HS5
              have HO5 : Hid ((w4.setCell ⟨wo.heap.size, 4, none⟩ (.slice (some ⟨g4, 0, none⟩) (cl.length + 1) cap4)).ownsRow (wo.heap.size + 1) 54 2 (.slice (some ⟨g4, 0, none⟩) (cl ++ [(pv - 1, qv - 1)]).length cap4) (cl ++ [(pv - 1, qv - 1)]).length (chL (cl ++ [(pv - 1, qv - 1)]))) := hide (owns_keep (by rw [List.length_append, chL_app]; exact HO4.out) fun g hg => other_set (by have := (HO4.out.lt g hg).1; omega))
              clear j4 j5 k4 HS4 HS2 HG5 HNE HO4 HRA HR3
              generalize w4.setCell ⟨wo.heap.size, 4, none⟩ (.slice (some ⟨g4, 0, none⟩) (cl.length + 1) cap4) = w5 at *
              go_wp2_with fail
              go_roundw
              case rel => exact ⟨j + 1, cl ++ [(pv - 1, qv - 1)], some ⟨g4, 0, none⟩, cap4, τ2, by omega, by go_num, hide (by rw [List.length_append, HCl.out]; rfl), HO5, hide (by rw [List.length_append]; exact HS5.out), HR2⟩
              case measure => simp [intOf]; omega
            · have HN : Hid ((τ >>= fun q => G (⟨tg, lt, hw, ru - 1, cl⟩, q)) = o) := hide (by
                have := HR.out
                cases τ with
                | error c => exact this
                | ok q =>
                  have hjk : kn - j = 0 := by
                    apply Classical.byContradiction
                    intro hn
                    exact hgo2 ⟨by omega, rfl⟩
                  rw [hjk] at this
                  exact this)
              have hex : ¬ j < kn ∨ (j < kn ∧ ¬ errS τ = 0) := by
                by_cases h1 : j < kn
                · exact .inr ⟨h1, fun h2 => hgo2 ⟨h1, h2⟩⟩
                · exact .inl h1
              obtain ⟨r0, r1, r2, r3, r4⟩ := five_cells HS.out.b1
              obtain ⟨Z, xs, hrow, hz, hold⟩ := HG.out
              have hRl : w.heap.size + 1 ≤ wo.heap.size := hRw
              clear hgo2 HR
              rcases hex with h1 | ⟨h1, h2⟩
              rotate_left
              · have heb : (errS τ == 0) = false := by simpa using h2
                have hA := below_new wr (.cells #[.int .i64 tg, .int .i64 lt, .int .i64 hw, .int .i64 (ru - 1), .slice a2 cl.length d2] 52)
                have hkp : ∀ g, w.heap.size + 1 ≤ g → g < wo.heap.size → wr.heap[g]? = wo.heap[g]? := fun g h1 h2 => HS.out.fr.block g h2 (by omega)
                have hrow2 := owns_keep hrow fun g hg => hkp g (hrow.lt g hg).1 (hrow.lt g hg).2
                have HRA := hide (owns_keep hrow2 fun g hg => hA.block g (owns_lt hrow2 hg))
                have hal : acc.length ≤ 65536 := by rw [HAl.out]; omega
                have hsw : wo.heap.size ≤ wr.heap.size := HS.out.fr.size
                have HNEW := hide (news_at (w := wr) (cs := [Value.int .i64 tg, .int .i64 lt, .int .i64 hw, .int .i64 (ru - 1), .slice a2 cl.length d2]) (t := 52) rfl)
                have HROW := hide hrow
                have HZ := hide hz
                have HOLD := hide hold
                clear hA hrow hrow2 hz hold
                go_wp2_with (at_builtin; go_must (refine wpList_append_two _ rfl _ _ 22 rfl (w.heap.size + 1) 52 iS _ 5 56 Try.underlying22 hiS zS0 zS1 zS2 rfl (by decide) _ _ xs rfl HRA.out ⟨wr.heap.size, 0, none⟩ 1 [.int .i64 tg, .int .i64 lt, .int .i64 hw, .int .i64 (ru - 1), .slice a2 cl.length d2] rfl rfl HNEW.out (by intro u hu; simp at hu; rcases hu with rfl | rfl | rfl | rfl | rfl <;> rfl) (by unfold maxLen; omega) (by omega) (by simp; omega) ?_); intro g4 cap4 w4 hown4 hg4; have hg5 : (Value.ownBlock (.slice a acc.length c) = some g4 ∧ (wr.alloc (.cells #[.int .i64 tg, .int .i64 lt, .int .i64 hw, .int .i64 (ru - 1), .slice a2 cl.length d2] 52)).grownBy w4 (some g4)) ∨ (g4 = wr.heap.size + 1 ∧ (wr.alloc (.cells #[.int .i64 tg, .int .i64 lt, .int .i64 hw, .int .i64 (ru - 1), .slice a2 cl.length d2] 52)).grownBy w4 none) := (by rcases hg4 with h | ⟨h1, h2⟩; exact .inl h; exact .inr ⟨by simpa using h1, h2⟩); have HG5 := hide hg5; have HO4 := hide hown4; clear hown4 hg4 hg5)
                have HGn : Hid (Gs (w.heap.size + 1) (acc ++ [(⟨tg, lt, hw, ru - 1, cl⟩ : StM)]) (.slice (some ⟨g4, 0, none⟩) (acc.length + 1) cap4) w4) := hide (Gs.grow (s := ⟨tg, lt, hw, ru - 1, cl⟩) (ca := a2) (cc := d2) hRl HROW.out HZ.out HOLD.out hkp hsw (owns_down HRow.out (Nat.le_succ _)) HO4.out HG5.out)
                have HD4 : Hid (Rq w.heap.size ba bc zs τ w4) := hide (HS.out.rd.keep fun g hg => grown_old rfl HG5.out (by omega) fun e => by have := (HROW.out.lt g e).1; omega)
                have HB4 : Hid (Below w.heap.size w w4) := hide ((HB.out.trans (HS.out.fr.below fun q hq => ⟨Nat.lt_of_lt_of_le hq HB.out.size, by omega⟩)).trans ((grown_fr (Z := fun k => w.heap.size ≤ k) rfl HG5.out fun g e => by have := (HROW.out.lt g e).1; omega).below fun q hq => ⟨by omega, by omega⟩))
                have HRn : Hid ((τ >>= fun q => lstM zs (n - (i + 1)) (acc ++ [(⟨tg, lt, hw, ru - 1, cl⟩ : StM)]) q >>= restM zs) = o) := hide (by have := HN.out; rw [HGd.out] at this; exact this)
                clear HG5 HO4 HROW HZ HOLD HRA HNEW HS HRow HN HG HB
                go_roundw
                case rel => exact ⟨i + 1, acc ++ [(⟨tg, lt, hw, ru - 1, cl⟩ : StM)], some ⟨g4, 0, none⟩, cap4, τ, by omega, by go_num, by rw [List.length_append]; rfl, hide (by rw [List.length_append, HAl.out]; rfl), hide (by rw [List.length_append]; exact HGn.out), HD4, HRn, HB4⟩
                case measure => simp [intOf]; omega
              · have hA := below_new wr (.cells #[.int .i64 tg, .int .i64 lt, .int .i64 hw, .int .i64 (ru - 1), .slice a2 cl.length d2] 52)
                have hkp : ∀ g, w.heap.size + 1 ≤ g → g < wo.heap.size → wr.heap[g]? = wo.heap[g]? := fun g h1 h2 => HS.out.fr.block g h2 (by omega)
                have hrow2 := owns_keep hrow fun g hg => hkp g (hrow.lt g hg).1 (hrow.lt g hg).2
                have HRA := hide (owns_keep hrow2 fun g hg => hA.block g (owns_lt hrow2 hg))
                have hal : acc.length ≤ 65536 := by rw [HAl.out]; omega
                have hsw : wo.heap.size ≤ wr.heap.size := HS.out.fr.size
                have HNEW := hide (news_at (w := wr) (cs := [Value.int .i64 tg, .int .i64 lt, .int .i64 hw, .int .i64 (ru - 1), .slice a2 cl.length d2]) (t := 52) rfl)
                have HROW := hide hrow
                have HZ := hide hz
                have HOLD := hide hold
                clear hA hrow hrow2 hz hold
                go_wp2_with (at_builtin; go_must (refine wpList_append_two _ rfl _ _ 22 rfl (w.heap.size + 1) 52 iS _ 5 56 Try.underlying22 hiS zS0 zS1 zS2 rfl (by decide) _ _ xs rfl HRA.out ⟨wr.heap.size, 0, none⟩ 1 [.int .i64 tg, .int .i64 lt, .int .i64 hw, .int .i64 (ru - 1), .slice a2 cl.length d2] rfl rfl HNEW.out (by intro u hu; simp at hu; rcases hu with rfl | rfl | rfl | rfl | rfl <;> rfl) (by unfold maxLen; omega) (by omega) (by simp; omega) ?_); intro g4 cap4 w4 hown4 hg4; have hg5 : (Value.ownBlock (.slice a acc.length c) = some g4 ∧ (wr.alloc (.cells #[.int .i64 tg, .int .i64 lt, .int .i64 hw, .int .i64 (ru - 1), .slice a2 cl.length d2] 52)).grownBy w4 (some g4)) ∨ (g4 = wr.heap.size + 1 ∧ (wr.alloc (.cells #[.int .i64 tg, .int .i64 lt, .int .i64 hw, .int .i64 (ru - 1), .slice a2 cl.length d2] 52)).grownBy w4 none) := (by rcases hg4 with h | ⟨h1, h2⟩; exact .inl h; exact .inr ⟨by simpa using h1, h2⟩); have HG5 := hide hg5; have HO4 := hide hown4; clear hown4 hg4 hg5)
                have HGn : Hid (Gs (w.heap.size + 1) (acc ++ [(⟨tg, lt, hw, ru - 1, cl⟩ : StM)]) (.slice (some ⟨g4, 0, none⟩) (acc.length + 1) cap4) w4) := hide (Gs.grow (s := ⟨tg, lt, hw, ru - 1, cl⟩) (ca := a2) (cc := d2) hRl HROW.out HZ.out HOLD.out hkp hsw (owns_down HRow.out (Nat.le_succ _)) HO4.out HG5.out)
                have HD4 : Hid (Rq w.heap.size ba bc zs τ w4) := hide (HS.out.rd.keep fun g hg => grown_old rfl HG5.out (by omega) fun e => by have := (HROW.out.lt g e).1; omega)
                have HB4 : Hid (Below w.heap.size w w4) := hide ((HB.out.trans (HS.out.fr.below fun q hq => ⟨Nat.lt_of_lt_of_le hq HB.out.size, by omega⟩)).trans ((grown_fr (Z := fun k => w.heap.size ≤ k) rfl HG5.out fun g e => by have := (HROW.out.lt g e).1; omega).below fun q hq => ⟨by omega, by omega⟩))
                have HRn : Hid ((τ >>= fun q => lstM zs (n - (i + 1)) (acc ++ [(⟨tg, lt, hw, ru - 1, cl⟩ : StM)]) q >>= restM zs) = o) := hide (by have := HN.out; rw [HGd.out] at this; exact this)
                clear HG5 HO4 HROW HZ HOLD HRA HNEW HS HRow HN HG HB
                go_roundw
                case rel => exact ⟨i + 1, acc ++ [(⟨tg, lt, hw, ru - 1, cl⟩ : StM)], some ⟨g4, 0, none⟩, cap4, τ, by omega, by go_num, by rw [List.length_append]; rfl, hide (by rw [List.length_append, HAl.out]; rfl), hide (by rw [List.length_append]; exact HGn.out), HD4, HRn, HB4⟩
                case measure => simp [intOf]; omega
        · obtain ⟨wt, rfl⟩ : ∃ wt, wt = wr := ⟨_, rfl⟩
          have HN : Hid ((σ >>= fun p => restM zs (acc, p)) = o) := hide (by
            have := HR.out
            cases σ with
            | error c => exact this
            | ok q =>
              have hjk : n - i = 0 := by
                apply Classical.byContradiction
                intro hn
                exact hgo ⟨by omega, rfl⟩
              rw [hjk] at this
              exact this)
          have hex : ¬ i < n ∨ (i < n ∧ ¬ errS σ = 0) := by
            by_cases h1 : i < n
            · exact .inr ⟨h1, fun h2 => hgo ⟨h1, h2⟩⟩
            · exact .inl h1
          have c1 := HD.out.bx.get (i := 1) rfl
          have c2 := HD.out.bx.get (i := 2) rfl
          have hRw : w.heap.size < wt.heap.size := HD.out.lt
          have HF0 : Hid (Fr (fun k => k = w.heap.size ∨ wt.heap.size ≤ k) wt wt) := hide (Fr.refl _ _)
          have HR4 : Hid ((∃ c, σ = .error c ∧ o = .error c) ∨ ∃ p, σ = .ok p ∧ σ = .ok (p + 0) ∧ p + 0 ≤ zs.length ∧ ([] : List Int) = (zs.drop p).take 0 ∧ restM zs (acc, p) = o) := hide (by
            have h1 := HN.out
            have h2 := HD.out.ok
            cases σ with
            | error c => exact .inl ⟨c, rfl, h1.symm⟩
            | ok q => exact .inr ⟨q, rfl, rfl, h2, rfl, h1⟩)
          clear hgo HR HN HAl
          rcases hex with h1 | ⟨h1, h2⟩
          all_goals
            try (have heb : (errS σ == 0) = false := by simpa using h2)
            go_upto_region 27 with fail
            clear c1 c2 h1
            try clear heb h2
            go_loopw [16, 17] (fun y x wq => ∃ (j : Nat) (L : List Int) (a2 : Option Addr) (d2 : Nat) (τ : Er Nat), j ≤ 4 ∧ x = .int .i64 j ∧ y = .slice a2 L.length d2 ∧ Hid (L.length = j) ∧ Hid (wq.ownsRow wt.heap.size 5 1 (.slice a2 L.length d2) L.length (byts L)) ∧ Hid (Rq w.heap.size ba bc zs τ wq) ∧ Hid ((∃ c, τ = .error c ∧ o = .error c) ∨ ∃ p, σ = .ok p ∧ τ = .ok (p + j) ∧ p + j ≤ zs.length ∧ L = (zs.drop p).take j ∧ restM zs (acc, p) = o) ∧ Hid (Fr (fun k => k = w.heap.size ∨ wt.heap.size ≤ k) wt wq)) (fun _ x _ => 4 - (intOf x).toNat)
            case atStart => exact ⟨0, [], none, 0, σ, by omega, rfl, rfl, rfl, hide ⟨rfl, .inl ⟨rfl, rfl⟩⟩, HD, HR4, HF0⟩
            case round =>
              clear HD HR4 HF0
              obtain ⟨j, L, a2, d2, τ, hj, rfl, rfl, HLl, HRow, HD, HR4, HF⟩ := hrel
              have e2 := HD.out.bx.get (i := 2) rfl
              by_cases hgo2 : j < 4 ∧ errS τ = 0
              · obtain ⟨hj2, he2⟩ := hgo2
                obtain ⟨q, rfl⟩ : ∃ p, τ = .ok p := by
                  cases τ with
                  | ok p => exact ⟨p, rfl⟩
                  | error c => exact absurd he2 HD.out.ok
                change _ = some (Value.int .i64 0) at e2
                have HR5 : Hid ((∃ c, opS (octM zs 0 255) (.ok q) = .error c ∧ o = .error c) ∨ ∃ p, σ = .ok p ∧ opS (octM zs 0 255) (.ok q) = .ok (p + (j + 1)) ∧ p + (j + 1) ≤ zs.length ∧ L ++ [opV (octM zs 0 255) (.ok q)] = (zs.drop p).take (j + 1) ∧ restM zs (acc, p) = o) := hide (by
                  rcases HR4.out with ⟨c, hc, _⟩ | ⟨p, h1, h2, h3, h4, h5⟩
                  · cases hc
                  · cases h2
                    rcases sum_step HBY.out hj2 h3 h5 with ⟨g1, g2, g3⟩ | ⟨g1, g2⟩
                    · exact .inr ⟨p, h1, g2, by omega, by rw [take_more g1, g3, ← h4], h5⟩
                    · exact .inl ⟨_, g1, g2⟩)
                have CN := hide (byte1_any HD.out (a := 0) (b := 255))
                clear HR4 he2
                generalize opS (octM zs 0 255) (.ok q) = τ1 at *
                generalize opV (octM zs 0 255) (.ok q) = bv at *
                go_upto_region 28 with (first
                  | (go_at_call 30; refine CN.out.mono ?_; rintro _ w2 ⟨rfl, hd, hf⟩; have HD2 := hide hd; have HF2 := hide (HF.out.trans (hf.mono fun _ _ e => .inl e)); have HRow2 := hide (owns_keep HRow.out fun g hg => hf.block g (owns_lt HRow.out hg) (by have := (HRow.out.lt g hg).1; omega)); have HRA := hide (owns_keep HRow2.out fun g hg => (below_new w2 (.cells #[.int .u8 bv] 5)).block g (owns_lt HRow2.out hg)); have hws := HF2.out.size; have hll : L.length ≤ 4 := (by rw [HLl.out]; omega); clear hd hf)
                  | (at_builtin; go_must (refine wpList_append_two _ rfl _ _ 29 rfl wt.heap.size 5 i0 _ 1 1 Try.underlying29 hi0 hz0 hz1 hz2 rfl (by decide) _ _ (byts L) rfl HRA.out ⟨w2.heap.size, 0, none⟩ 1 [.int .u8 bv] rfl rfl (news_at rfl) (by intro u hu; simp at hu; subst hu; rfl) (by unfold maxLen; omega) (by omega) (by simp; omega) ?_); intro g4 cap4 w4 hown4 hg4; have hg5 : (Value.ownBlock (.slice a2 L.length d2) = some g4 ∧ (w2.alloc (.cells #[.int .u8 bv] 5)).grownBy w4 (some g4)) ∨ (g4 = w2.heap.size + 1 ∧ (w2.alloc (.cells #[.int .u8 bv] 5)).grownBy w4 none) := (by rcases hg4 with h | ⟨h1, h2⟩; exact .inl h; exact .inr ⟨by simpa using h1, h2⟩); have HG5 := hide hg5; have HO4 := hide hown4; clear hown4 hg4 hg5))
                have HF4 := hide (HF2.out.trans (grown_fr (Z := fun k => k = w.heap.size ∨ wt.heap.size ≤ k) rfl HG5.out fun g e => .inr (HRow2.out.lt g e).1))
                have HD4 := hide (HD2.out.keep fun g hg => grown_old rfl HG5.out (by omega) fun e => by have := (HRow2.out.lt g e).1; omega)
                clear HG5 HD2 HRow2 HRA HF2 CN HRow HD HF e2
                go_wp2_with fail
                go_roundw
                case rel => exact ⟨j + 1, L ++ [bv], some ⟨g4, 0, none⟩, cap4, τ1, by omega, by go_num, by rw [List.length_append]; rfl, hide (by rw [List.length_append, HLl.out]; rfl), hide (by rw [List.length_append, byts_app]; exact HO4.out), HD4, HR5, HF4⟩
                case measure => simp [intOf]; omega
              · have e1 := HD.out.bx.get (i := 1) rfl
                have hkeep : ∀ g, w.heap.size + 1 ≤ g → g < wt.heap.size → wr.heap[g]? = wt.heap[g]? := fun g h1 h2 => HF.out.block g h2 (by omega)
                have HGx := hide (HG.out.keep hkeep HF.out.size)
                have HBx : Hid (Below w.heap.size w wr) := hide (HB.out.trans (HF.out.below fun q hq => ⟨Nat.lt_of_lt_of_le hq HB.out.size, by have := HB.out.size; omega⟩))
                cases τ with
                | error c =>
                  have hoe : o = .error c := by
                    rcases HR4.out with ⟨c', h1, h2⟩ | ⟨p, _, h2, _⟩
                    · cases h1; exact h2
                    · cases h2
                  have hce : c.1 ≠ 0 := HD.out.ok
                  have hb1 : (c.1 == 0) = false := by simpa using hce
                  have hb2 : (c.1 != 0) = true := by simpa using hce
                  change _ = some (Value.int .i64 c.1) at e2
                  change _ = some (Value.int .i64 c.2) at e1
                  have HWE := hide (HW.out.trans hoe)
                  clear hgo2 HR4 hoe hkeep HGx
                  rcases (show j < 4 ∨ ¬ j < 4 by omega) with hj4 | hj4
                  all_goals
                    go_wp2_with fail
                    go_quiet (fail)
                    go_wp2_with fail
                    go_ret3
                    exact ⟨Decd.no HWE.out rfl, HBx.out.trans ((below_drewN wr _).mono HBx.out.size)⟩
                | ok q =>
                  have hj4 : j = 4 := by
                    apply Classical.byContradiction
                    intro hn
                    exact hgo2 ⟨by omega, rfl⟩
                  subst hj4
                  obtain ⟨p, hσ, hq, hp4, hLt, hro⟩ : ∃ p, σ = .ok p ∧ q = p + 4 ∧ p + 4 ≤ zs.length ∧ L = (zs.drop p).take 4 ∧ restM zs (acc, p) = o := by
                    rcases HR4.out with ⟨c', h1, _⟩ | ⟨p, h1, h2, h3, h4, h5⟩
                    · cases h1
                    · cases h2; exact ⟨p, h1, rfl, h3, h4, h5⟩
                  subst hσ hq
                  rw [rest_ok hp4, ← hLt] at hro
                  change _ = some (Value.int .i64 0) at e2
                  change _ = some (Value.int .i64 ((p + 4 : Nat) : Int)) at e1
                  have HTL : Hid ((zs.take p).length = p) := hide (by rw [List.length_take]; omega)
                  have CS := hide (refSum_any ba p bc (zs.take p) wr HTL.out (by omega) (HD.out.head p))
                  obtain ⟨m, hm⟩ : ∃ m, crc (zs.take p) = m := ⟨_, rfl⟩
                  rw [hm] at CS hro
                  have CL := hide (little_any m wr)
                  have HRO := hide hro
                  have hA := below_new wr (.cells (byts (fourB m)).toArray 5)
                  have HDl := hide (HD.out.below hA)
                  have HBl := hide (HBx.out.trans (hA.mono HBx.out.size))
                  have HGl := hide (HGx.out.keep (fun g _ h2 => hA.block g h2) hA.size)
                  have HRl := hide (owns_keep HRow.out fun g hg => hA.block g (owns_lt HRow.out hg))
                  have HXl : Hid (Fx wr.heap.size 5 (byts (fourB m)) (wr.alloc (.cells (byts (fourB m)).toArray 5))) := hide (heap_alloc_new wr _)
                  have hbR : w.heap.size < wr.heap.size := HD.out.lt
                  have hat0 : atS (.ok p) = (p : Int) := rfl
                  clear hgo2 HR4 hkeep HGx HBx hLt hm hro hA HD HRow HF HG HB
                  go_upto_region 33 with (first
                    | (go_at_call 25; refine CS.out.mono ?_; rintro _ w3 ⟨rfl, hw3⟩; subst w3)
                    | (go_at_call 24; refine CL.out.mono ?_; rintro _ w3 ⟨rfl, hw3⟩; subst w3))
                  clear e1 e2 CS CL
                  generalize wr.alloc (.cells (byts (fourB m)).toArray 5) = wl at *
                  generalize wr.heap.size = lb at *
                  go_loopw [19] (fun x wq => ∃ (j : Nat) (τ : Er Nat), j ≤ 4 ∧ x = .int .i64 j ∧ Hid (Rq w.heap.size ba bc zs τ wq) ∧ Hid ((τ = .ok (p + 4) ∧ L.take j = (fourB m).take j) ∨ (τ = .error (13, (p : Int)) ∧ L ≠ fourB m)) ∧ Hid (Fr (fun k => k = w.heap.size) wl wq)) (fun x _ => 4 - (intOf x).toNat)
                  case atStart => exact ⟨0, .ok (p + 4), by omega, rfl, HDl, hide (.inl ⟨rfl, by simp⟩), hide (Fr.refl _ _)⟩
                  case round =>
                    clear HDl
                    obtain ⟨j, τ, hj, rfl, HD, HT, HF⟩ := hrel
                    have HBx : Hid (Below w.heap.size w wr) := hide (HBl.out.trans (HF.out.below fun q hq => ⟨Nat.lt_of_lt_of_le hq HBl.out.size, by omega⟩))
                    by_cases hlt5 : j < 4
                    · have hrow5 := owns_keep HRl.out fun g hg => HF.out.block g (owns_lt HRl.out hg) (by have := (HRl.out.lt g hg).1; omega)
                      obtain ⟨g, rfl, hg1, hg2, hcl⟩ := own_news hrow5 (by rw [HLl.out]; decide)
                      have hLj : j < L.length := by rw [HLl.out]; exact hlt5
                      have d0 : wr.cell? ⟨g, j, none⟩ = some (.int .u8 (L.getD j 0)) := by
                        have := hcl j (.int .u8 (L.getD j 0)) (byts_get (by simp [List.getD, hLj]))
                        rwa [Addr.add_lit, Nat.zero_add] at this
                      have hFj : j < (fourB m).length := hlt5
                      have d1 : wr.cell? ⟨lb, j, none⟩ = some (.int .u8 ((fourB m).getD j 0)) := (HXl.out.keep (HF.out.block _ HXl.out.lt (by omega))).get (byts_get (by simp [List.getD, hFj]))
                      by_cases hxy : L.getD j 0 = (fourB m).getD j 0
                      · have HT2 : Hid ((τ = .ok (p + 4) ∧ L.take (j + 1) = (fourB m).take (j + 1)) ∨ (τ = .error (13, (p : Int)) ∧ L ≠ fourB m)) := hide (by
                          rcases HT.out with ⟨h1, h2⟩ | h
                          · exact .inl ⟨h1, take_eq hLj hFj h2 hxy⟩
                          · exact .inr h)
                        have hbb : (L.getD j 0 != (fourB m).getD j 0) = false := by simpa using hxy
                        clear HT hxy hcl hrow5
                        generalize L.getD j 0 = x0 at *
                        generalize (fourB m).getD j 0 = y0 at *
                        go_wp2_with fail
                        go_quiet (fail)
                        go_wp2_with fail
                        go_roundw
                        case rel => exact ⟨j + 1, τ, by omega, by go_num, hide (HD.out.below (below_drewN wr _)), HT2, hide (HF.out.trans (Fr.of_below (below_drewN wr _)))⟩
                        case measure => simp [intOf]; omega
                      · have HT2 : Hid ((failS 13 p τ = .ok (p + 4) ∧ L.take (j + 1) = (fourB m).take (j + 1)) ∨ (failS 13 p τ = .error (13, (p : Int)) ∧ L ≠ fourB m)) := hide (by
                          refine .inr ⟨?_, fun e => hxy (by rw [e])⟩
                          rcases HT.out with ⟨h1, h2⟩ | ⟨h1, h2⟩
                          · rw [h1]; rfl
                          · rw [h1]; rfl)
                        have hbb : (L.getD j 0 != (fourB m).getD j 0) = true := by simpa using hxy
                        have CF := hide (fun nq => fail_any (HD.out.below (below_drewN wr nq)) (c := 13) (q := (p : Int)) (by decide))
                        clear HT hxy hcl hrow5
                        generalize L.getD j 0 = x0 at *
                        generalize (fourB m).getD j 0 = y0 at *
                        go_wp2_with fail
                        go_quiet (fail)
                        go_wp2_with (go_at_call 32; refine (CF.out _).mono ?_; rintro _ w6 ⟨rfl, hd, hf⟩; have HD6 := hide hd; have HF6 := hide ((HF.out.trans (Fr.of_below (below_drewN wr _))).trans hf); clear hd hf)
                        go_roundw
                        case rel => exact ⟨j + 1, _, by omega, by go_num, HD6, HT2, HF6⟩
                        case measure => simp [intOf]; omega
                    · have hj4 : j = 4 := by omega
                      subst hj4
                      have e1 := HD.out.bx.get (i := 1) rfl
                      have e2 := HD.out.bx.get (i := 2) rfl
                      have HGx := hide (HGl.out.keep (fun g h1 h2 => HF.out.block g h2 (by omega)) HF.out.size)
                      rcases HT.out with ⟨rfl, hLe⟩ | ⟨rfl, hLe⟩
                      · have hLW : L = fourB m := by
                          rw [List.take_of_length_le (by rw [HLl.out]; exact Nat.le_refl _), show (fourB m).take 4 = fourB m from rfl] at hLe
                          exact hLe
                        change _ = some (Value.int .i64 ((p + 4 : Nat) : Int)) at e1
                        change _ = some (Value.int .i64 0) at e2
                        have hro := HRO.out
                        rw [if_pos hLW] at hro
                        by_cases hp5 : p + 4 < zs.length
                        · have HWE := hide (HW.out.trans (hro.symm.trans (if_pos hp5)))
                          have CF := hide (fail_any HD.out (c := 9) (q := ((p + 4 : Nat) : Int)) (by decide))
                          clear HT hLe hLW hro HRO
                          go_upto_region 39 with (go_at_call 32; refine CF.out.mono ?_; rintro _ w6 ⟨rfl, hd, hf⟩; have s1 := hd.bx.get (i := 1) rfl; have s2 := hd.bx.get (i := 2) rfl; have HB6 := hide (HBx.out.trans (hf.below fun q hq => ⟨Nat.lt_of_lt_of_le hq HBx.out.size, by omega⟩)); clear hd hf)
                          change _ = some (Value.int .i64 ((p + 4 : Nat) : Int)) at s1
                          change _ = some (Value.int .i64 9) at s2
                          clear e1 e2
                          go_wp2_with fail
                          go_quiet (fail)
                          go_wp2_with fail
                          go_ret3
                          exact ⟨Decd.no HWE.out rfl, HB6.out.trans ((below_drewN w6 _).mono HB6.out.size)⟩
                        · have HWE := hide (HW.out.trans (hro.symm.trans (if_neg hp5)))
                          clear HT hLe hLW hro HRO
                          go_wp2_with fail
                          go_ret3
                          exact ⟨Decd.yes HWE.out rfl (HGx.out.down (Nat.le_succ _)), HBx.out⟩
                      · change _ = some (Value.int .i64 (p : Int)) at e1
                        change _ = some (Value.int .i64 13) at e2
                        have HWE := hide (HW.out.trans (HRO.out.symm.trans (if_neg hLe)))
                        clear HT hLe HRO
                        go_wp2_with fail
                        go_quiet (fail)
                        go_wp2_with fail
                        go_ret3
                        exact ⟨Decd.no HWE.out rfl, HBx.out.trans ((below_drewN wr _).mono HBx.out.size)⟩
end Go.Proofs.Ytagpdceaononkaa
