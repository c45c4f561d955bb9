/- OctetsBack, walked: of any number, text and bytes, each of at most 1048576, it returns true and turns nothing that was there. -/
import Derived.Test.YtkiigmfdfkflpaaCopy
import Derived.Test.YtkiigmfdfkflpaaReadText
import Derived.Test.YtkiigmfdfkflpaaUnhex
import Derived.Test.YtkiigmfdfkflpaaAlive
import Derived.Test.YtkiigmfdfkflpaaBackPlain
import Derived.Deep.RegionWith
import Derived.Deep.RegionHeld3
import Derived.Test.YtkiigmfdfkflpaaSameQuiet
namespace Go.Proofs.Ytkiigmfdfkflpaa
open Go.RowKit

theorem src_of_row {w : World} {a : Option Addr} {len cap : Nat} {zs : List Int} (hl : zs.length = len) (h : Row w a zs) : Src Try.prog 1 23 (.slice a len cap) len (zs.map (Value.int .u8)) w := by
  subst hl
  by_cases hz : zs = []
  · subst hz
    cases a with
    | none => exact Src.ofNil w Try.underlying23 cap
    | some x => exact Src.ofSlice w Try.underlying23 x 0 cap [] rfl (by simp) (by simp)
  · obtain ⟨b, off, rfl, hc⟩ := h.cells hz
    refine Src.ofSlice w Try.underlying23 ⟨b, off, none⟩ zs.length cap _ (by simp) (fun j u hu => ?_) (ints_oneCell _ _)
    have hj : j < zs.length := by
      have := (List.getElem?_eq_some_iff.1 hu).1
      simpa using this
    rw [Addr.add_lit, hc j hj, ← hu]
    simp [List.getD, hj]

theorem all_of_getD {zs : List Int} (h : ∀ i : Nat, 0 ≤ zs[i]?.getD 0 ∧ zs[i]?.getD 0 ≤ 255) : ∀ z ∈ zs, 0 ≤ z ∧ z ≤ 255 := by
  intro z hz
  obtain ⟨i, hi, rfl⟩ := List.mem_iff_getElem.1 hz
  simpa [hi] using h i

theorem textB_bytes (s : ByteArray) (hs : s.size ≤ 1048576) : ∀ z ∈ textB s, 0 ≤ z ∧ z ≤ 255 := by
  intro z hz
  rcases List.mem_append.1 hz with h | h
  · exact uintB_byte 9 _ (by omega) (by omega) z h
  · exact strB_byte s z h

theorem tripT_str (s : ByteArray) (t e : Int) : tripT (strB s, t, e) = .tuple #[.string s, .int .i64 t, .int .i64 e] := by unfold tripT; rw [strOfNums_strB]

theorem wrap_in (n : Int) (h : -9223372036854775808 ≤ n ∧ n ≤ 9223372036854775807) : IntKind.i64.wrap n = n := by
  simp only [IntKind.wrap, IntKind.bits, IntKind.signed]
  simp
  omega

theorem Row.drew {w : World} {a : Option Addr} {zs : List Int} (h : Row w a zs) : Row w.drew a zs := ⟨h.cells, h.byte⟩

theorem same_true (a1 a2 : Option Addr) (len1 cap1 len2 cap2 : Nat) (xs ys : List Int) (w : World) (hl1 : xs.length = len1) (hl2 : ys.length = len2) (hlen : len1 ≤ 140737488355328) (h1 : Row w a1 xs) (h2 : Row w a2 ys) (he : xs = ys) :
    Calls Try.prog 12 #[.slice a1 len1 cap1, .slice a2 len2 cap2] w fun e w' => e = .returned (.bool true) ∧ Below w.heap.size w w' := by
  have h := same_any a1 a2 len1 cap1 len2 cap2 xs ys w hl1 hl2 hlen h1 h2
  rwa [decide_eq_true he] at h

/-- What stands ahead of the last comparisons. -/
structure BackPre (w : World) (aB a12 : Option Addr) (ys : List Int) (W : World) : Prop where
  b : Row W aB ys
  c : Row W a12 ys
  old : Below w.heap.size w W

/-- The same, with the bytes that were laid anew. -/
structure BackGot (w : World) (aB a12 : Option Addr) (ys : List Int) (t : Nat) (W : World) (a : Option Addr) : Prop where
  got : Row W a (ys.take t)
  pre : BackPre w aB a12 ys W

theorem BackPre.below {w : World} {aB a12 : Option Addr} {ys : List Int} {W W' : World} (h : BackPre w aB a12 ys W) (hb : Below W.heap.size W W') : BackPre w aB a12 ys W' :=
  ⟨h.b.below hb (Nat.le_refl _), h.c.below hb (Nat.le_refl _), h.old.trans (hb.mono h.old.size)⟩

theorem row_take {W : World} {a : Option Addr} {ys : List Int} (h : Row W a ys) (t : Nat) : Row W a (ys.take t) := by
  refine ⟨fun hne => ?_, fun i => ?_⟩
  · obtain ⟨b, off, rfl, hc⟩ := h.cells (by intro e; subst e; simp at hne)
    refine ⟨b, off, rfl, fun i hi => ?_⟩
    rw [List.length_take] at hi
    rw [hc i (by omega)]
    simp [List.getD, show i < t by omega]
  · rw [List.getElem?_take]
    split
    · exact h.byte i
    · simp

theorem back_uint {w : World} {aB a12 : Option Addr} {ys : List Int} {t : Nat} {r : Int} (h0 : 0 ≤ r) (h1 : r < 18446744073709551616) (hl : uintB 9 r = ys.take t) (hlt : (ys.take t).length = t) (hby : ∀ z ∈ ys.take t, 0 ≤ z ∧ z ≤ 255) :
    ∀ W, BackPre w aB a12 ys W → Calls Try.prog 13 #[.int .u64 r] W fun e w' => ∃ a cap, e = .returned (.slice a t cap) ∧ BackGot w aB a12 ys t w' a := by
  intro W hp
  refine (uint_any r W h0 h1).mono ?_
  rintro e w' ⟨v, rfl, hown, hb⟩
  rw [hl, hlt] at hown
  obtain ⟨a, cap, rfl⟩ := own_shape hown
  exact ⟨a, cap, rfl, (own_row' hown (bytes_getD hby)).2.2.2.2, hp.below hb⟩

theorem back_same1 {w : World} {aB a12 : Option Addr} {ys : List Int} {t cb : Nat} (hlt : (ys.take t).length = t) (ht : t ≤ 140737488355328) :
    ∀ W a cap, BackGot w aB a12 ys t W a → Calls Try.prog 12 #[.slice a t cap, .slice aB t cb] W fun e w' => e = .returned (.bool true) ∧ BackGot w aB a12 ys t w' a := by
  intro W a cap hg
  refine (same_true a aB t cap t cb (ys.take t) (ys.take t) W hlt hlt ht hg.got (row_take hg.pre.b t) rfl).mono ?_
  rintro e w' ⟨rfl, hb⟩
  exact ⟨rfl, hg.got.below hb (Nat.le_refl _), hg.pre.below hb⟩

theorem back_same2 {w : World} {aB a12 : Option Addr} {ys : List Int} {t lb cb cap12 : Nat} (hl : ys.length = lb) (hlb : lb ≤ 140737488355328) :
    ∀ W a, BackGot w aB a12 ys t W a → Calls Try.prog 12 #[.slice a12 ys.length cap12, .slice aB lb cb] W fun e w' => e = .returned (.bool true) ∧ Below w.heap.size w w' := by
  intro W a hg
  refine (same_true a12 aB ys.length cap12 lb cb ys ys W rfl hl (by omega) hg.pre.c hg.pre.b rfl).mono ?_
  rintro e w' ⟨rfl, hb⟩
  exact ⟨rfl, hg.pre.old.trans (hb.mono hg.pre.old.size)⟩

set_option maxRecDepth 100000 in
set_option maxHeartbeats 4000000 in
theorem back_walk (n : Int) (s : ByteArray) (aA aB : Option Addr) (la ca lb cb : Nat) (xs ys : List Int) (w : World) (h0 : 0 ≤ n) (h1 : n < 18446744073709551616) (hs : s.size ≤ 1048576)
    (hla : xs.length = la) (hla2 : la ≤ 1048576) (hlb : ys.length = lb) (hlb2 : lb ≤ 1048576) (hcb : lb ≤ cb) (hnb : aB = none → cb = 0) (hA : Row w aA xs) (hB : Row w aB ys) :
    Calls Try.prog 6 #[.int .u64 n, .string s, .slice aA la ca, .slice aB lb cb] w fun e w' => e = .returned (.bool true) ∧ Below w.heap.size w w' := by
  obtain ⟨i0, hi, hz0, hz1, hz2⟩ := info_parts info5
  have HZy := hide (all_of_getD hB.byte)
  have HZx := hide (all_of_getD hA.byte)
  have HZu := hide (uintB_byte 9 n h0 (by omega))
  have HZt := hide (textB_bytes s hs)
  have hul := uintB_len 9 n
  have htl : (textB s).length ≤ 1048586 := by have := uintB_len 9 (s.size : Int); rw [textB_len]; omega
  have HLA := hide hla
  have HLB := hide hlb
  have HNB := hide hnb
  have HA := hide hA
  have HB := hide hB
  clear hla hlb hnb hA hB
  have HRU := hide (readU_uint xs (textB s ++ ys) n h0 h1)
  have HRT := hide (readT_text (xs ++ uintB 9 n) ys s (by omega))
  generalize hU : uintB 9 n = us at *
  generalize hT : textB s = ts at *
  have HU := hide hU
  have HT := hide hT
  clear hU hT
  go_enter Try.func6, Try.ntmps6
  go_wp2_with fail
  refine (alive_any w).mono ?_
  rintro e w1 ⟨rfl, hb1⟩
  go_wp2_with fail
  have c2 := uint_any n w1 h0 h1
  rw [HU.out] at c2
  refine c2.mono ?_
  clear c2
  rintro e w2 ⟨v, rfl, hown2, hb2⟩
  obtain ⟨a2, cap2, hv⟩ := own_shape hown2
  subst hv
  have HR2 := hide (own_row' hown2 (bytes_getD HZu.out)).2.2.2.2
  have hb12 : Below w.heap.size w w2 := hb1.trans (hb2.mono hb1.size)
  clear hown2 hb1 hb2
  go_wp2_with fail
  have c3 := text_any s w2 (by omega)
  rw [HT.out] at c3
  refine c3.mono ?_
  clear c3
  rintro e w3 ⟨a3, cap3, rfl, hown3, hb3⟩
  have HR3 := hide (own_row' hown3 (bytes_getD HZt.out)).2.2.2.2
  have HR2b := hide (HR2.out.below hb3 (Nat.le_refl _))
  have hb13 : Below w.heap.size w w3 := hb12.trans (hb3.mono hb12.size)
  clear hown3 hb12 hb3 HR2
  go_wp2_with fail
  have HB3 := hide (HB.out.below hb13 (Nat.le_refl _))
  have HA3 := hide (HA.out.below hb13 (Nat.le_refl _))
  clear HA HB
  refine (copy_any aA la ca xs w3 HLA.out (by omega) HA3.out).mono ?_
  rintro e w4 ⟨v, rfl, hown4, hb4⟩
  have HS4 := hide (src_of_row (cap := cap2) rfl (HR2b.out.below hb4 (Nat.le_refl _)))
  go_wp2_with (at_builtin; go_must (refine wpList_append_src _ rfl (.tmp 31) (.tmp 32) 23 23 rfl w3.heap.size 5 i0 (.int .u8 0) Try.underlying23 hi hz0 hz1 hz2 rfl _ la _ rfl hown4 _ us.length (us.map (Value.int .u8)) rfl HS4.out (by omega) hb4.size ?_))
  intro v5 w5 hown5 hgrow5
  have hb5 : Below w3.heap.size w3 w5 := hb4.grown hgrow5 hb4.size (fun k hk => (hown4.lt k hk).1)
  have HS5 := hide (src_of_row (cap := cap3) rfl (HR3.out.below hb5 (Nat.le_refl _)))
  clear hgrow5 hown4 hb4 HS4
  go_wp2_with (at_builtin; go_must (refine wpList_append_src _ rfl (.tmp 34) (.tmp 35) 23 23 rfl w3.heap.size 5 i0 (.int .u8 0) Try.underlying23 hi hz0 hz1 hz2 rfl _ (la + us.length) _ rfl hown5 _ ts.length (ts.map (Value.int .u8)) rfl HS5.out (by omega) hb5.size ?_))
  intro v6 w6 hown6 hgrow6
  have hb6 : Below w3.heap.size w3 w6 := hb5.grown hgrow6 hb5.size (fun k hk => (hown5.lt k hk).1)
  have HS6 := hide (src_of_row (cap := cb) HLB.out (HB3.out.below hb6 (Nat.le_refl _)))
  clear hgrow6 hown5 hb5 HS5
  go_wp2_with (at_builtin; go_must (refine wpList_append_src _ rfl (.tmp 37) (.tmp 38) 23 23 rfl w3.heap.size 5 i0 (.int .u8 0) Try.underlying23 hi hz0 hz1 hz2 rfl _ (la + us.length + ts.length) _ rfl hown6 _ lb (ys.map (Value.int .u8)) rfl HS6.out (by omega) hb6.size ?_))
  intro v7 w7 hown7 hgrow7
  have hb7 : Below w3.heap.size w3 w7 := hb6.grown hgrow7 hb6.size (fun k hk => (hown6.lt k hk).1)
  clear hgrow7 hown6 hb6 HS6
  obtain ⟨a7, cap7, hv⟩ := own_shape hown7
  subst hv
  have hmap : List.map (Value.int .u8) xs ++ (List.map (Value.int .u8) us ++ (List.map (Value.int .u8) ts ++ List.map (Value.int .u8) ys)) = (xs ++ (us ++ (ts ++ ys))).map (Value.int .u8) := by simp
  rw [hmap] at hown7
  have hbz : ∀ z ∈ xs ++ (us ++ (ts ++ ys)), 0 ≤ z ∧ z ≤ 255 := by
    intro z hz
    simp only [List.mem_append] at hz
    rcases hz with h | h | h | h
    · exact HZx.out z h
    · exact HZu.out z h
    · exact HZt.out z h
    · exact HZy.out z h
  obtain ⟨hl7, hlc7, _, hn7, hr7⟩ := own_row' hown7 (bytes_getD hbz)
  have C8 := hide (readUint_any a7 (la + us.length + ts.length + lb) cap7 (xs ++ (us ++ (ts ++ ys))) (la : Int) w7 hl7 (by omega) hlc7 hn7 hr7)
  have C9 := hide (readText_any a7 (la + us.length + ts.length + lb) cap7 (xs ++ (us ++ (ts ++ ys))) ((la : Int) + us.length) w7 hl7 (by omega) hlc7 hn7 hr7 hbz)
  have E1 : readU (xs ++ (us ++ (ts ++ ys))) (la : Int) = (n, (la : Int) + us.length, 0) := by rw [← HLA.out]; exact HRU.out
  have E2 : readT (xs ++ (us ++ (ts ++ ys))) ((la : Int) + us.length) = (strB s, (la : Int) + us.length + ts.length, 0) := by
    have h := HRT.out
    rw [List.append_assoc, List.length_append, HLA.out] at h
    have e : ((la + us.length : Nat) : Int) = (la : Int) + us.length := by omega
    rw [e] at h
    exact h
  rw [E1] at C8
  rw [E2] at C9
  clear E1 E2 hmap hbz hl7 hlc7 hn7 hr7 hown7 HRU HRT
  go_wp2_with fail
  refine C8.out.mono ?_
  rintro e w8 ⟨rfl, rfl⟩
  unfold trip
  simp only [tripT_str] at C9
  go_wp2_with fail
  refine C9.out.mono ?_
  rintro e w9 ⟨rfl, rfl⟩
  clear C8 C9
  have HBs := hide (HB3.out.below hb7 (Nat.le_refl _))
  have C10 := hide (readUint_any aB lb cb ys 0 w9 HLB.out (by omega) hcb HNB.out HBs.out)
  have HLD : Hid (∀ z t, readU ys 0 = (z, t, 0) → uintB 9 z = ys.take t.toNat ∧ 0 ≤ z ∧ z < 18446744073709551616 ∧ 0 ≤ t ∧ t ≤ (ys.length : Int)) := fun z t hr => by
    have h2 := readU_ok hr HZy.out
    exact ⟨readU_laid hr HZy.out, h2.2.1, h2.2.2.1, by omega, h2.2.2.2.2⟩
  generalize readU ys 0 = r at *
  obtain ⟨r1, r2, r3⟩ := r
  go_wp2_with fail
  refine C10.out.mono ?_
  rintro e w10 ⟨rfl, rfl⟩
  unfold trip
  clear C10
  go_wp2_with fail
  refine (hex_any aB lb cb ys w10 HLB.out (by omega) HBs.out).mono ?_
  rintro e w11 ⟨rfl, hb11⟩
  have hb3b : Below w3.heap.size w3 w11 := hb7.trans (hb11.mono hb7.size)
  have HB11 := hide (HB3.out.below hb3b (Nat.le_refl _))
  clear hb7 hb11 HBs
  have hsz : (strOfNums (hexB ys)).size ≤ 140737488351232 := by rw [strOfNums_size, hexB_len, HLB.out]; omega
  have C12 := hide (unhex_any (strOfNums (hexB ys)) w11 hsz)
  rw [unhex_hex ys HZy.out] at C12
  clear hsz
  generalize strOfNums (hexB ys) = hx at *
  go_wp2_with fail
  refine C12.out.mono ?_
  clear C12
  rintro e w12 ⟨a12, cap12, rfl, hown12, hb12⟩
  have HR12 := hide (own_row' hown12 (bytes_getD HZy.out)).2.2.2.2
  have HB12 := hide (HB11.out.below hb12 (Nat.le_refl _))
  have hb13b : Below w3.heap.size w3 w12 := hb3b.trans (hb12.mono hb3b.size)
  have hbw : Below w.heap.size w w12 := hb13.trans (hb13b.mono hb13.size)
  clear hown12 hb12 hb3b HB11 hb13b hb13
  have hq1 : ((n == n) : Bool) = true := by simp
  have HRn : Hid (∀ m, Row (w12.drewN m) a12 ys) := fun m => HR12.out.below (drewN_below w12 m _) (Nat.le_refl _)
  have HBn : Hid (∀ m, Row (w12.drewN m) aB ys) := fun m => HB12.out.below (drewN_below w12 m _) (Nat.le_refl _)
  have hwp1 : IntKind.i64.wrap ((la : Int) + us.length) = (la : Int) + us.length := wrap_in _ (by omega)
  have hwp2 : IntKind.i64.wrap ((la : Int) + us.length + ts.length) = (la : Int) + us.length + ts.length := wrap_in _ (by omega)
  by_cases hr3 : r3 = 0
  · subst hr3
    obtain ⟨hlaid, hz0', hz1', ht0, htl2⟩ := HLD.out r1 r2 rfl
    rw [HLB.out] at htl2
    obtain ⟨t, rfl⟩ := Int.eq_ofNat_of_zero_le ht0
    have htlb : t ≤ lb := by omega
    have htcb : t ≤ cb := by omega
    have htcbi : (t : Int) ≤ (cb : Int) := by omega
    have hlt : (ys.take t).length = t := by rw [List.length_take, HLB.out]; omega
    rw [Int.toNat_natCast] at hlaid
    have htpos : 0 < t := by
      have h := uintB_pos 9 r1
      rw [hlaid, hlt] at h
      omega
    obtain ⟨b, off, haB, hcB⟩ := HB12.out.cells (by intro e; have := HLB.out; rw [e] at this; simp at this; omega)
    subst haB
    have hcbp : ¬ cb = 0 := by omega
    have HPre : Hid (BackPre w (some ⟨b, off, none⟩) a12 ys w12.drew) := ⟨HB12.out.drew, HR12.out.drew, hbw.drew⟩
    have CU : Hid (∀ W, BackPre w (some ⟨b, off, none⟩) a12 ys W → Calls Try.prog 13 #[.int .u64 r1] W fun e w' => ∃ a cap, e = .returned (.slice a t cap) ∧ BackGot w (some ⟨b, off, none⟩) a12 ys t w' a) := back_uint hz0' hz1' hlaid hlt (by rw [← hlaid]; exact uintB_byte 9 r1 hz0' (by omega))
    have CS1 : Hid (∀ W a cap, BackGot w (some ⟨b, off, none⟩) a12 ys t W a → Calls Try.prog 12 #[.slice a t cap, .slice (some ⟨b, off, none⟩) t cb] W fun e w' => e = .returned (.bool true) ∧ BackGot w (some ⟨b, off, none⟩) a12 ys t w' a) := back_same1 hlt (by omega)
    have CS2 : Hid (∀ W a, BackGot w (some ⟨b, off, none⟩) a12 ys t W a → Calls Try.prog 12 #[.slice a12 ys.length cap12, .slice (some ⟨b, off, none⟩) lb cb] W fun e w' => e = .returned (.bool true) ∧ Below w.heap.size w w') := back_same2 HLB.out (by omega)
    clear HLD hlaid hlt HRn HBn HB12 HR12 hbw HB3 HA3 HR3 HR2b HZy HZx HZu HZt HU HT hcB
    go_wp2_with fail
    dsimp only [List.append]
    go_region_held3 (fun _ : World => True) (trivial) (first | (go_at_call 15; refine (num_any _ _).mono ?_; rintro e w' ⟨rfl, rfl⟩) | (go_at_call 13; refine (CU.out _ HPre.out).mono ?_; rintro e w13 ⟨a13, cap13, rfl, hbk⟩) | (go_at_call_of 12 a12; refine (CS2.out _ _ (by assumption)).mono ?_; rintro e w15 ⟨rfl, hend⟩) | (go_at_call 12; refine (CS1.out _ _ _ (by assumption)).mono ?_; rintro e w14 ⟨rfl, hbk2⟩))
    go_wp2_with fail
    go_ret
    exact ⟨rfl, hend⟩
  · have hr3b : (r3 != 0) = true := by simp [hr3]
    have hr3c : (r3 == 0) = false := by simp [hr3]
    clear hr3 HLD
    go_wp2_with fail
    refine wp_region_quiet_lit (by kernel_rfl) (by kernel_rfl) ?_
    dsimp only [List.append]
    repeat (go_big_quiet_step ((first | (go_at_call 15; exact Calls.quiet_of_same (num_any _ _)) | (go_at_call 12; exact Calls.quiet_of (same_quiet a12 aB ys.length cap12 lb cb ys _ rfl HLB.out (by rw [HLB.out]; omega) (HRn.out _) (HBn.out _))))))
    refine wpQuiet_nil ?_
    intro _ hw'
    obtain ⟨nq, hw''⟩ := hw'
    subst hw''
    go_wp2_with fail
    go_ret
    exact ⟨rfl, hbw.trans (drewN_below w12 nq _)⟩

end Go.Proofs.Ytkiigmfdfkflpaa
