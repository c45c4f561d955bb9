/- ReadText, the program's and the document's: of any bytes at any place both answer what readT says, and turn nothing in memory. -/
import Derived.Test.YtkiigmfdfkflpaaRefRead
import Derived.Test.YtkiigmfdfkflpaaTextPlain
namespace Go.Proofs.Ytkiigmfdfkflpaa
open Go.RowKit

def tripT (r : List Int × Int × Int) : Value := .tuple #[.string (strOfNums r.1), .int .i64 r.2.1, .int .i64 r.2.2]

theorem ret_tripT {s : ByteArray} {l : List Int} {t e : Int} {r : List Int × Int × Int} (h : r = (l, t, e)) (hs : s = strOfNums l) : Ending.returned (.tuple #[.string s, .int .i64 t, .int .i64 e]) = .returned (tripT r) := by rw [h, hs]; rfl

theorem str_nil : (⟨#[]⟩ : ByteArray) = strOfNums [] := rfl

set_option maxHeartbeats 400000 in
theorem readText_any (a : Option Addr) (len cap : Nat) (zs : List Int) (p : Int) (w : World) (hl : zs.length = len) (hlen : len ≤ 140737488355328) (hcap : len ≤ cap) (hn : a = none → cap = 0) (h : Row w a zs) (hb : ∀ z ∈ zs, 0 ≤ z ∧ z ≤ 255) :
    Calls Try.prog 17 #[.slice a len cap, .int .i64 p] w fun e w' => e = .returned (tripT (readT zs p)) ∧ w' = w := by
  have c1 := readUint_any a len cap zs p w hl hlen hcap hn h
  generalize hr : readU zs p = r at c1
  obtain ⟨n, to, er⟩ := r
  by_cases he : er = 0
  · subst he
    obtain ⟨hp0, hn0, hn1, hto, htl⟩ := readU_ok hr hb
    rw [hl] at htl
    obtain ⟨t, rfl⟩ := Int.eq_ofNat_of_zero_le (show 0 ≤ to by omega)
    obtain ⟨m, rfl⟩ := Int.eq_ofNat_of_zero_le hn0
    have hzl : 0 < zs.length := by omega
    by_cases hs : (zs.length : Int) - (t : Int) < (m : Int)
    · have HT := hide (readT_short hr hs)
      rw [hl] at hs
      have HL := hide hl
      have C1 := hide c1
      clear hr h hb c1 hn hl hzl
      go_enter Try.func17, Try.ntmps17
      go_wp2_with fail
      refine C1.out.mono ?_
      rintro e w1 ⟨rfl, rfl⟩
      unfold trip
      go_wp2_with fail
      go_ret3
      exact ⟨ret_tripT (by rw [HT.out, HL.out]) str_nil, rfl⟩
    · have HT := hide (readT_ok hr hs)
      rw [hl] at hs
      obtain ⟨b, off, ha, hc⟩ := h.cells (by intro e; subst e; simp at hzl)
      subst ha
      have HL := hide hl
      have C1 := hide c1
      have hcv := run_convert_bytes_arg (P := Try.prog) w 23 5 Try.underlying23 Try.underlying5 b (off + t) m (cap - t) ((zs.drop t).take m) (by simp; omega) (fun i hi => by
        rw [Nat.add_assoc, hc (t + i) (by omega)]
        simp [List.getD, hi]) 9 Try.underlying9
      have HCV := hide hcv
      have hmt : t + m ≤ len := by omega
      clear hs hn0 hn1 hto hp0
      clear hr h hb c1 hn hl hzl hc hcv
      by_cases hct : cap = t
      · have HM : Hid (m = 0) := by unfold Hid; omega
        have hcv0 := run_convert_bytes_arg (P := Try.prog) w 23 5 Try.underlying23 Try.underlying5 b off m 0 [] HM.out.symm (fun i hi => by rw [HM.out] at hi; omega) 9 Try.underlying9
        have HCV0 := hide hcv0
        clear hcv0 HCV
        have hm0 : m ≤ 0 := by rw [HM.out]; omega
        subst hct
        go_enter Try.func17, Try.ntmps17
        go_wp2_with fail
        refine C1.out.mono ?_
        rintro e w1 ⟨rfl, rfl⟩
        unfold trip
        have hcv := HCV0.out
        go_wp2_with fail
        go_ret3
        exact ⟨ret_tripT HT.out (by simp [HM.out]), rfl⟩
      · go_enter Try.func17, Try.ntmps17
        go_wp2_with fail
        refine C1.out.mono ?_
        rintro e w1 ⟨rfl, rfl⟩
        unfold trip
        have hcv := HCV.out
        go_wp2_with fail
        go_ret3
        exact ⟨ret_tripT HT.out (by simp), rfl⟩
  · have HT := hide (readT_err hr he)
    have heb : (er != 0) = true := by simp [he]
    have C1 := hide c1
    clear hr h hb c1 hn hl he
    go_enter Try.func17, Try.ntmps17
    go_wp2_with fail
    refine C1.out.mono ?_
    rintro e w1 ⟨rfl, rfl⟩
    unfold trip
    go_wp2_with fail
    go_ret3
    exact ⟨ret_tripT HT.out str_nil, rfl⟩

set_option maxHeartbeats 400000 in
theorem refReadText_any (a : Option Addr) (len cap : Nat) (zs : List Int) (p : Int) (w : World) (hl : zs.length = len) (hlen : len ≤ 140737488355328) (hcap : len ≤ cap) (h : Row w a zs) (hb : ∀ z ∈ zs, 0 ≤ z ∧ z ≤ 255) :
    Calls Try.prog 18 #[.slice a len cap, .int .i64 p] w fun e w' => e = .returned (tripT (readT zs p)) ∧ w' = w := by
  have c1 := refRead_any a len cap zs p w hl hlen h
  generalize hr : readU zs p = r at c1
  obtain ⟨n, to, er⟩ := r
  by_cases he : er = 0
  · subst he
    obtain ⟨hp0, hn0, hn1, hto, htl⟩ := readU_ok hr hb
    rw [hl] at htl
    obtain ⟨t, rfl⟩ := Int.eq_ofNat_of_zero_le (show 0 ≤ to by omega)
    obtain ⟨m, rfl⟩ := Int.eq_ofNat_of_zero_le hn0
    have hzl : 0 < zs.length := by omega
    by_cases hs : (zs.length : Int) - (t : Int) < (m : Int)
    · have HT := hide (readT_short hr hs)
      rw [hl] at hs
      have HL := hide hl
      have C1 := hide c1
      clear hr h hb c1 hl hzl
      go_enter Try.func18, Try.ntmps18
      go_wp2_with fail
      refine C1.out.mono ?_
      rintro e w1 ⟨rfl, rfl⟩
      unfold trip
      go_wp2_with fail
      go_ret3
      exact ⟨ret_tripT (by rw [HT.out, HL.out]) str_nil, rfl⟩
    · have HT := hide (readT_ok hr hs)
      rw [hl] at hs
      obtain ⟨b, off, ha, hc⟩ := h.cells (by intro e; subst e; simp at hzl)
      subst ha
      have HL := hide hl
      have C1 := hide c1
      have hcv := run_convert_bytes_arg (P := Try.prog) w 23 5 Try.underlying23 Try.underlying5 b (off + t) m (cap - t) ((zs.drop t).take m) (by simp; omega) (fun i hi => by
        rw [Nat.add_assoc, hc (t + i) (by omega)]
        simp [List.getD, hi]) 9 Try.underlying9
      have HCV := hide hcv
      have hmt : t + m ≤ len := by omega
      clear hs hn0 hn1 hto hp0
      clear hr h hb c1 hl hzl hc hcv
      by_cases hct : cap = t
      · have HM : Hid (m = 0) := by unfold Hid; omega
        have hcv0 := run_convert_bytes_arg (P := Try.prog) w 23 5 Try.underlying23 Try.underlying5 b off m 0 [] HM.out.symm (fun i hi => by rw [HM.out] at hi; omega) 9 Try.underlying9
        have HCV0 := hide hcv0
        clear hcv0 HCV
        have hm0 : m ≤ 0 := by rw [HM.out]; omega
        subst hct
        go_enter Try.func18, Try.ntmps18
        go_wp2_with fail
        refine C1.out.mono ?_
        rintro e w1 ⟨rfl, rfl⟩
        unfold trip
        have hcv := HCV0.out
        go_wp2_with fail
        go_ret3
        exact ⟨ret_tripT HT.out (by simp [HM.out]), rfl⟩
      · go_enter Try.func18, Try.ntmps18
        go_wp2_with fail
        refine C1.out.mono ?_
        rintro e w1 ⟨rfl, rfl⟩
        unfold trip
        have hcv := HCV.out
        go_wp2_with fail
        go_ret3
        exact ⟨ret_tripT HT.out (by simp), rfl⟩
  · have HT := hide (readT_err hr he)
    have heb : (er != 0) = true := by simp [he]
    have C1 := hide c1
    clear hr h hb c1 hl he
    go_enter Try.func18, Try.ntmps18
    go_wp2_with fail
    refine C1.out.mono ?_
    rintro e w1 ⟨rfl, rfl⟩
    unfold trip
    go_wp2_with fail
    go_ret3
    exact ⟨ret_tripT HT.out str_nil, rfl⟩

end Go.Proofs.Ytkiigmfdfkflpaa
