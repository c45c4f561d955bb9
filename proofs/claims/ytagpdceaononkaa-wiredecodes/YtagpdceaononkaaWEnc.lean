/- written, Encode. -/
import Derived.Test.YtagpdceaononkaaWSum
import Derived.Test.YtagpdceaononkaaWChk
import Derived.Lib.SlBytesConst
namespace Go.Proofs.Ytagpdceaononkaa
open Go.RowKit

/-- Appending to a row that is full. -/
theorem wpList_append_full {P : Program} (w : World) {base : Nat} (hbase : base ≤ w.heap.size) {ops : Array Oper} {rest : List Oper} {o : Oper} {a : Act} {Q : Exit → Act → World → Prop} (hgd : Region.wanted o (yielded ops a.tmps) = true) (s x : Operand) (t tx : TypeId)
    (ho : o.op = .call { callee := .builtin .append, args := #[s, x], argTypes := #[t, tx] }) (e : TypeId) (i : TypeInfo) (z : Value) (k b : Nat) (ht : P.underlying t = some (.slice e)) (hi : P.info? e = some i) (hz : i.zero = some z) (hs1 : i.size = k) (hb1 : i.bytes = b) (hzc : z.cells.size = k)
    (g n : Nat) (xs : List Value) (hxl : xs.length = n * k) (hs : a.eval s = .slice (some ⟨g, 0, none⟩) n n) (hcells : ∀ j u, xs[j]? = some u → w.cell? ((⟨g, 0, none⟩ : Addr).add j) = some u) (y : Value) (m : Nat) (news : List Value) (hx : a.eval x = y) (hsrc : Src P k tx y m news w) (hm : 0 < m) (h63 : n + m ≤ maxLen) (hby : (n + m) * b ≤ 140737488355328)
    (h : ∀ v' w', w'.ownsRow base e k v' (n + m) (xs ++ news) → w.grownBy w' none → wpList P ops Q rest (a.put o.dst v') w') : wpList P ops Q (o :: rest) a w := by
  refine BigFrame.wpList_want hgd fun K hK => ?_
  have hsm : n + m ≤ 9223372036854775807 := by simp only [maxLen] at h63; omega
  have hnl : news.length = m * k := hsrc.newsLen
  have hsrc' : Src P i.size tx y m news w := by rw [hs1]; exact hsrc
  have hmb : (n + m) * i.bytes ≤ 140737488355328 := by rw [hb1]; exact hby
  have hold := run_firstCells_some (P := P) w.drew i.size n ⟨g, 0, none⟩ n n xs (by rw [hs1]; omega) (by simpa using hcells)
  have hr := run_append_grow_src (P := P) w t tx o.type e i z ht hi hz (some ⟨g, 0, none⟩) n n xs hold y m news hsrc' (by omega) (by omega) (growslice_fits (by omega) hmb)
  have hgr := grown_row hbase (w := w) (e := e) (old := n) hzc hxl hnl (by omega) none
  unfold Oper.wp execOp
  simp only [ho, resolve, invoke, builtin, Sem.run_bind, Sem.run_pure, Result.andThen_ok, List.map_toArray, List.map_cons, List.map_nil, hs, hx, hr]
  exact hK _ _ (h _ _ hgr.1 hgr.2)
set_option maxRecDepth 100000 in
set_option maxHeartbeats 6400000 in
theorem put_full {w : World} {B g n : Nat} {zs : List Int} (hl : zs.length = n) (hc : ∀ j u, (byts zs)[j]? = some u → w.cell? ((⟨g, 0, none⟩ : Addr).add j) = some u) (hgl : g < w.heap.size) (hB : B ≤ w.heap.size) {z : Int} (h0 : 0 ≤ z) (h1 : z < 9223372036854775808) (hn : n ≤ 1000000000) :
    Calls Try.prog 35 #[.slice (some ⟨g, 0, none⟩) n n, .int .i64 z] w fun e w' => ∃ a c, e = .returned (.slice a (zs ++ numB z).length c) ∧ w'.ownsRow B 5 1 (.slice a (zs ++ numB z).length c) (zs ++ numB z).length (byts (zs ++ numB z)) ∧ Below w.heap.size w w' := by
  obtain ⟨i0, hi, hz0, hz1, hz2⟩ := info_parts infoB
  have CU := hide (uint_any z w h0 (by omega))
  have HC := hide hc
  have HL := hide (numB_len z)
  have HP : Hid (0 < (numB z).length) := hide (uintB_ne 9 z)
  have hw : IntKind.u64.wrap z = z := by rw [IntKind.wrap_u64]; omega
  have HN := hide hl
  clear hc hl
  go_enter Try.func35, Try.ntmps35
  go_wp2_with (first | (go_at_call 44; refine CU.out.mono ?_; rintro _ w1 ⟨v1, rfl, hu, hb1⟩; obtain ⟨ua, uc, rfl⟩ := owns_slice hu; have HU := hide (src_own (zs := numB z) hu); have HB1 := hide hb1; clear hu hb1) | (at_builtin; go_must (refine wpList_append_full _ (Nat.le_trans hB HB1.out.size) (by rfl) _ _ 29 29 rfl 5 i0 _ 1 1 Try.underlying29 hi hz0 hz1 hz2 rfl g n (byts zs) (by rw [byts_len, HN.out, Nat.mul_one]) rfl (fun j u hu => by rw [Addr.add_lit]; exact (World.cell?_of_block (HB1.out.block g hgl)).trans (by have := HC.out j u hu; rwa [Addr.add_lit] at this)) _ _ (byts (numB z)) rfl HU.out HP.out (by have := HL.out; unfold numB at this; unfold maxLen; omega) (by have := HL.out; unfold numB at this; omega) ?_); intro v4 w4 hown4 hg4; obtain ⟨a4, c4, rfl⟩ := owns_slice hown4; have HO4 := hide hown4; have HG4 := hide (HB1.out.grown hg4 HB1.out.size (by simp)); clear hown4 hg4))
  go_ret
  refine ⟨a4, c4, ?_, ?_, HG4.out⟩
  · rw [List.length_append, HN.out]; rfl
  · rw [List.length_append, HN.out, byts_app]; exact HO4.out
theorem st_step {l : List StM} {k : Nat} {s : StM} (h : l[k]? = some s) : (l.drop k).flatMap stB = stB s ++ (l.drop (k + 1)).flatMap stB := by rw [drop_at h, List.flatMap_cons]
theorem Sts.get {N : Nat} {w : World} {l : List StM} {a : Option Addr} (h : Sts N w l a) {k : Nat} {s : StM} (hs : l[k]? = some s) : ∃ (g o : Nat) (ca : Option Addr) (cc : Nat), a = some ⟨g, o, none⟩ ∧ w.cell? ⟨g, o + k * 5, none⟩ = some (.int .i64 s.tag) ∧ w.cell? ⟨g, o + k * 5 + 1, none⟩ = some (.int .i64 s.lit) ∧ w.cell? ⟨g, o + k * 5 + 2, none⟩ = some (.int .i64 s.how) ∧ w.cell? ⟨g, o + k * 5 + 3, none⟩ = some (.int .i64 s.rule) ∧ w.cell? ⟨g, o + k * 5 + 4, none⟩ = some (.slice ca s.ch.length cc) ∧ s.ch.length ≤ 140737488351232 ∧ ChN N w ca s.ch := by
  obtain ⟨g, o, ca, cc, e, _, c0, c1, c2, c3, c4, h1, h2⟩ := h k s hs
  exact ⟨g, o, ca, cc, e, c0, c1, c2, c3, c4, h1, h2⟩
/-- What has been written. -/
structure Wrt (w : World) (acc : List Int) (a : Option Addr) (c : Nat) (wr : World) : Prop where
  low : Below w.heap.size w wr
  row : wr.ownsRow w.heap.size 5 1 (.slice a acc.length c) acc.length (byts acc)
theorem Wrt.told {w wr w2 : World} {acc zs : List Int} {a a2 : Option Addr} {c c2 : Nat} (h : Wrt w acc a c wr) (ho : w2.ownsRow w.heap.size 5 1 (.slice a2 zs.length c2) zs.length (byts zs)) (hf : Fr (fun k => Value.ownBlock (.slice a acc.length c) = some k) wr w2) : Wrt w zs a2 c2 w2 :=
  ⟨h.low.trans (hf.below fun k hk => ⟨Nat.lt_of_lt_of_le hk h.low.size, fun e => by have := (h.row.lt k e).1; omega⟩), ho⟩
theorem Wrt.call {w wr w2 : World} {acc : List Int} {a : Option Addr} {c : Nat} (h : Wrt w acc a c wr) (hb : Below wr.heap.size wr w2) : Wrt w acc a c w2 :=
  ⟨h.low.trans (hb.mono h.low.size), owns_keep h.row fun g hg => hb.block g (owns_lt h.row hg)⟩
theorem row_of_owns {w : World} {B : Nat} {a : Option Addr} {c : Nat} {zs : List Int} (h : w.ownsRow B 5 1 (.slice a zs.length c) zs.length (byts zs)) (hz : ∀ z ∈ zs, 0 ≤ z ∧ z ≤ 255) : Row w a zs ∧ zs.length ≤ c ∧ (a = none → c = 0) := by
  obtain ⟨_, h2, _, h4, h5⟩ := own_row' h (bytes_getD hz)
  exact ⟨h5, h2, h4⟩
set_option maxRecDepth 100000 in
set_option maxHeartbeats 12800000 in
theorem written_any {N : Nat} {w : World} {l : List StM} {la : Option Addr} {lc : Nat} (hN : N ≤ w.heap.size) (h : Sts N w l la) (ho : Okl l) :
    Calls Try.prog 22 #[.slice la l.length lc] w fun e w' => ∃ a c, e = .returned (.slice a (encB l).length c) ∧ w'.ownsRow w.heap.size 5 1 (.slice a (encB l).length c) (encB l).length (byts (encB l)) ∧ Below w.heap.size w w' := by
  obtain ⟨i0, hi, hz0, hz1, hz2⟩ := info_parts infoB
  obtain ⟨E, hE⟩ : ∃ E, bodyB l = E := ⟨_, rfl⟩
  have HLen : Hid (E.length ≤ 9000000000) := hide (by rw [← hE]; exact body_len ho)
  have HBy : Hid (∀ z ∈ E, 0 ≤ z ∧ z ≤ 255) := hide (by rw [← hE]; exact body_byte ho)
  have HE0 : Hid (markB ++ numB l.length ++ (l.drop 0).flatMap stB = E) := hide (by rw [← hE, List.drop_zero]; rfl)
  have HEnc : Hid (encB l = E ++ fourB (crc E)) := hide (by rw [← hE]; rfl)
  have hll := ho.len
  have hB := below_new w (.cells #[.int .u8 108, .int .u8 120, .int .u8 100, .int .u8 1] 5 (4, 5))
  have hMk := heap_alloc_new w (.cells #[.int .u8 108, .int .u8 120, .int .u8 100, .int .u8 1] 5 (4, 5))
  have CP := hide (put_full (B := w.heap.size) (w := w.alloc (.cells #[.int .u8 108, .int .u8 120, .int .u8 100, .int .u8 1] 5 (4, 5))) (g := w.heap.size) (n := 4) (zs := markB) rfl (fun j u hu => by rw [Addr.add_lit]; unfold World.cell?; simp only [hMk, Nat.zero_add]; simpa [byts, markB] using hu) (loc_lt hMk) (by simp) (z := l.length) (by omega) (by omega) (by omega))
  have HH := hide h
  have HO := hide ho
  have HN := hide hN
  have HLow := hide hB
  clear h ho hE hN hB hMk
  have hcv := Lib.run_convert_bytes_const (P := Try.prog) w 29 5 #[.int .u8 108, .int .u8 120, .int .u8 100, .int .u8 1] 4 4 Try.underlying29 Try.underlying5
  rw [show (#[.int .u8 108, .int .u8 120, .int .u8 100, .int .u8 1] : Array Value).size = 4 from rfl] at hcv
  go_enter Try.func22, Try.ntmps22
  go_upto_region 1 with fail
  go_upto_region 2 with (go_at_call 35; refine CP.out.mono ?_; rintro _ w1 ⟨a1, c1, rfl, ho1, hw1⟩; have HW1 : Hid (Wrt w (markB ++ numB l.length) a1 c1 w1) := hide ⟨HLow.out.trans (hw1.mono HLow.out.size), ho1⟩; clear ho1 hw1)
  clear CP HLow hcv
  go_wp2_with fail
  go_loopw [3, 14] (fun y x wr => ∃ (k : Nat) (acc : List Int) (a : Option Addr) (c : Nat), k ≤ l.length ∧ x = .int .i64 k ∧ y = .slice a acc.length c ∧ Hid (Wrt w acc a c wr) ∧ Hid (acc ++ (l.drop k).flatMap stB = E)) (fun _ x _ => l.length - (intOf x).toNat)
  case atStart => exact ⟨0, _, _, _, by omega, rfl, by rw [List.length_append], HW1, HE0⟩
  case round =>
    clear HW1 HE0
    obtain ⟨k, acc, a, c, hk, rfl, rfl, HW, HE⟩ := hrel
    by_cases hlt : k < l.length
    · obtain ⟨s, hs⟩ := get_at hlt
      obtain ⟨g, of, ca, cc, rfl, c0, c1, c2, c3, c4, hcl, hch⟩ := Sts.get (HH.out.keep (w' := wr) fun g hg => HW.out.low.block g (by have := HN.out; omega)) hs
      have hsm := HO.out.may s (List.mem_of_getElem? hs)
      have hA := below_new wr (.cells (stc s ca cc).toArray 52)
      have hF := fx_new wr (stc s ca cc) 52
      have HWa := hide (HW.out.call hA)
      have HE2 : Hid (acc ++ stB s ++ (l.drop (k + 1)).flatMap stB = E) := hide (by rw [← HE.out, st_step hs, List.append_assoc])
      have hlen : (acc ++ stB s).length ≤ 100000000000 := by have := len_le HE2.out HLen.out; omega
      have hch2 := hch.keep (w' := wr.alloc (.cells (stc s ca cc).toArray 52)) fun g hg => hA.block g (by have := HN.out; have := HW.out.low.size; omega)
      have CS := hide (putStep_any HWa.out.row HWa.out.low.size HN.out hsm hch2 (cc := cc) hlen)
      clear hs hch hch2 hsm hA HE HW hlen
      go_upto_region 5 with fail
      unfold stc at CS HWa hF
      generalize wr.alloc (.cells [.int .i64 s.tag, .int .i64 s.lit, .int .i64 s.how, .int .i64 s.rule, .slice ca s.ch.length cc].toArray 52) = w2 at *
      clear c0 c1 c2 c3 c4
      obtain ⟨c0, c1, c2, c3, c4⟩ := five_cells hF
      clear hF
      unfold stv at CS
      go_wp2_with (go_at_call 36; refine CS.out.mono ?_; rintro _ w3 ⟨a3, c3, rfl, ho3, hf3, -⟩; have HW3 := hide (HWa.out.told ho3 hf3); clear ho3 hf3)
      go_roundw
      case rel => exact ⟨k + 1, acc ++ stB s, _, _, by omega, by go_num, by rw [List.length_append], HW3, HE2⟩
      case measure => simp [intOf]; omega
    · have hAE : acc = E := by have := HE.out; rw [drop_end (by omega)] at this; simpa using this
      subst hAE
      obtain ⟨hr1, hr2, hr3⟩ := row_of_owns HW.out.row HBy.out
      have CS := hide (sumOf_any a acc.length c acc wr rfl (by have := HLen.out; omega) hr1 HBy.out)
      clear HE hr1 hr2 hr3
      obtain ⟨n, hn⟩ : ∃ n, crc acc = n := ⟨_, rfl⟩
      rw [hn] at CS
      have HEnc2 : Hid (encB l = acc ++ fourB n) := hide (by rw [← hn]; exact HEnc.out)
      clear hn HEnc
      go_upto_region 8 with (first
        | (go_at_call 37; refine CS.out.mono ?_; rintro _ w3 ⟨rfl, hw3⟩; have HW3 := hide (HW.out.call hw3); clear hw3)
        | refine wpList_store_row rfl 80 _ _ rfl w3.heap.size (fourA 4 n) rfl rfl 80 _ (heap_alloc_new _ _) (by rw [fourA_size]; exact info4) rfl (fourA_one 4 n) ?_)
      clear CS HW
      have hX : ((w3.alloc (.cells #[.int .u8 0, .int .u8 0, .int .u8 0, .int .u8 0] 80)).setRow w3.heap.size (fourA 4 n)).heap[w3.heap.size]? = some (.cells (fourA 4 n) 80 (0, 0)) := setRow_heap _ _ _ _ _ _ (heap_alloc_new _ _)
      have HW4 := hide (HW3.out.call (setRow_below (below_new w3 (.cells #[.int .u8 0, .int .u8 0, .int .u8 0, .int .u8 0] 80)) (Nat.le_refl _) (fourA 4 n)))
      generalize ((w3.alloc (.cells #[.int .u8 0, .int .u8 0, .int .u8 0, .int .u8 0] 80)).setRow w3.heap.size (fourA 4 n)) = X at *
      generalize w3.heap.size = b at *
      have hnew : ∀ j u, (byts (fourB n))[j]? = some u → X.cell? ((⟨b, 0, none⟩ : Addr).add j) = some u := fun j u hu => by rw [Addr.add_lit, cell_of_row _ _ _ _ _ _ hX, fourA_four]; simpa using hu
      have HSRC : Hid (Src Try.prog 1 29 (.slice (some ⟨b, 0, none⟩) 4 4) 4 (byts (fourB n)) X) := hide (Src.ofSlice X Try.underlying29 ⟨b, 0, none⟩ 4 4 (byts (fourB n)) rfl hnew (by intro u hu; obtain ⟨x, _, rfl⟩ := List.mem_map.1 hu; rfl))
      clear hnew
      have hl9 := HLen.out
      clear HW3 hX
      go_wp2_with (at_builtin; go_must (refine wpList_append_src _ HW4.out.low.size (by rfl) _ _ 29 29 rfl 5 i0 _ 1 1 Try.underlying29 hi hz0 hz1 hz2 rfl _ _ _ rfl HW4.out.row _ 4 (byts (fourB n)) rfl HSRC.out (by unfold maxLen; omega) (by omega) ?_); intro v4 w4 hown4 hg4 hat4; obtain ⟨a4, c4, rfl⟩ := owns_slice hown4; have HO4 := hide hown4; have HG4 := hide (grown_row_fr (Below.refl _ _) hg4); clear hown4 hg4 hat4)
      go_ret
      refine ⟨a4, c4, ?_, ?_, ?_⟩
      · rw [HEnc2.out, List.length_append]; rfl
      · rw [HEnc2.out, List.length_append, byts_app]; exact HO4.out
      · exact (HW4.out.low.trans (HG4.out.below fun k hk => ⟨Nat.lt_of_lt_of_le hk HW4.out.low.size, fun e => by have := (HW4.out.row.lt k e).1; omega⟩))
def encL (l : List StM) : List Int := if (chkM l).1 = 0 then encB l else []
/-- What Encode answers. -/
def Encd (l : List StM) (w : World) (e : Ending) (w' : World) : Prop := ∃ a c, e = .returned (.tuple #[.slice a (encL l).length c, .int .i64 (chkM l).1]) ∧ w'.ownsRow w.heap.size 5 1 (.slice a (encL l).length c) (encL l).length (byts (encL l)) ∧ Below w.heap.size w w'
set_option maxRecDepth 100000 in
set_option maxHeartbeats 6400000 in
theorem encode_any {N : Nat} {w : World} {l : List StM} {la : Option Addr} {lc : Nat} (hN : N ≤ w.heap.size) (hl : l.length ≤ 140737488351232) (h : Sts N w l la) :
    Calls Try.prog 11 #[.slice la l.length lc] w fun e w' => Encd l w e w' := by
  have CC := hide (check_any (c := lc) hN hl h)
  obtain ⟨a, b, hab⟩ : ∃ a b, chkM l = (a, b) := ⟨_, _, rfl⟩
  rw [hab] at CC
  unfold dup at CC
  simp only at CC
  have HH := hide h
  have HN := hide hN
  clear h hN
  by_cases ha : a = 0
  · have h0 : (chkM l).1 = 0 := by rw [hab]; exact ha
    have HO := hide (chk_okl h0)
    have HE : Hid (encL l = encB l) := hide (if_pos h0)
    have HZ := hide h0
    subst ha
    clear hab h0
    go_enter Try.func11, Try.ntmps11
    go_upto_region 4 with (go_at_call 9; refine CC.out.mono ?_; rintro _ w1 ⟨rfl, hw1⟩; have HB1 := hide hw1; clear hw1)
    have CW := hide (written_any (lc := lc) (Nat.le_trans HN.out HB1.out.size) (HH.out.keep fun g hg => HB1.out.block g (Nat.lt_of_lt_of_le hg HN.out)) HO.out)
    go_wp2_with (go_at_call 22; refine CW.out.mono ?_; rintro _ w2 ⟨a2, d2, rfl, ho2, hw2⟩; have HO2 := hide (owns_down ho2 HB1.out.size); have HB2 := hide (HB1.out.trans (hw2.mono HB1.out.size)); clear ho2 hw2)
    go_ret2
    refine ⟨a2, d2, ?_, ?_, HB2.out⟩
    · rw [HE.out, HZ.out]; rfl
    · rw [HE.out]; exact HO2.out
  · have h0 : ¬ (chkM l).1 = 0 := by rw [hab]; exact ha
    have HE : Hid (encL l = []) := hide (if_neg h0)
    have HZ : Hid ((chkM l).1 = a) := hide (by rw [hab])
    have hab2 : (a != 0) = true := by simpa using ha
    clear hab h0
    go_enter Try.func11, Try.ntmps11
    go_wp2_with (go_at_call 9; refine CC.out.mono ?_; rintro _ w1 ⟨rfl, hw1⟩; have HB1 := hide hw1; clear hw1)
    go_ret2
    refine ⟨none, 0, ?_, ?_, HB1.out⟩
    · rw [HE.out, HZ.out]; rfl
    · rw [HE.out]; exact ⟨rfl, .inl ⟨rfl, rfl⟩⟩
end Go.Proofs.Ytagpdceaononkaa
