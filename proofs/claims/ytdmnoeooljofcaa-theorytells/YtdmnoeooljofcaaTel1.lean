/- theory.For, Pairs, Size, whatever the theory. -/
import Derived.Test.YtdmnoeooljofcaaPrs
import Derived.Test.YtdmnoeooljofcaaNvM
namespace Go.Proofs.Ytdmnoeooljofcaa
open Go.RowKit

def forE (T : Th) (q : Int) : Int := if (checkM T).1 ≠ 0 then (checkM T).1 else if inM q T.lits then 0 else 91
def forX (T : Th) (q : Int) : List Int := if forE T q = 0 then rulesL T kA q else []
def premN (T : Th) (k : Nat) : Nat := ((T.rules.take k).map fun r => r.body.length).sum
section
variable {T : Th} {q : Int} {k : Nat} {r : RuleM}
theorem forX_bad (h : (checkM T).1 ≠ 0) : forE T q = (checkM T).1 ∧ forX T q = [] := by
  have : forE T q = (checkM T).1 := by unfold forE; rw [if_pos h]
  exact ⟨this, by unfold forX; rw [this, if_neg h]⟩
theorem forX_out (h : (checkM T).1 = 0) (hq : inM q T.lits = false) : forE T q = 91 ∧ forX T q = [] := by
  have : forE T q = 91 := by unfold forE; rw [if_neg (by rw [h]; decide), hq]; rfl
  exact ⟨this, by unfold forX; rw [this]; rfl⟩
theorem forX_in (h : (checkM T).1 = 0) (hq : inM q T.lits = true) : forE T q = 0 ∧ forX T q = rulesL T kA q := by
  have : forE T q = 0 := by unfold forE; rw [if_neg (by rw [h]; decide), hq]; rfl
  exact ⟨this, by unfold forX; rw [this]; rfl⟩
theorem forL_hit (hr : T.rules[k]? = some r) (h : r.head = q) : forL T kA (k + 1) q = forL T kA k q ++ [(k : Int)] := by
  rw [forL_succ]
  have : isFor T kA q k = true := by unfold isFor kA; rw [hr]; simp [h]
  rw [this]; rfl
theorem forL_miss (hr : T.rules[k]? = some r) (h : r.head ≠ q) : forL T kA (k + 1) q = forL T kA k q := by
  rw [forL_succ]
  have : isFor T kA q k = false := by unfold isFor kA; rw [hr]; simp [h]
  rw [this]; rfl
theorem premN_next (hr : T.rules[k]? = some r) : premN T (k + 1) = premN T k + r.body.length := by
  unfold premN
  rw [List.take_add_one, hr, List.map_append, List.sum_append]
  simp
theorem premN_le (h : ∀ r ∈ T.rules, r.body.length ≤ 16) : premN T k ≤ k * 16 := by
  induction k with
  | zero => simp [premN]
  | succ k ih =>
    cases e : T.rules[k]? with
    | none => unfold premN at ih ⊢; rw [List.take_add_one, e]; simp only [Option.toList_none, List.append_nil]; omega
    | some r => rw [premN_next e]; have := h r (List.mem_of_getElem? e); omega
end
set_option maxRecDepth 100000 in
set_option maxHeartbeats 6400000 in
theorem For_any {w : World} {T : Th} {fa ra ba : Option Addr} {fc rc bc : Nat} {q : Int} (h : TA w.heap.size w T fa fc ra rc ba bc) :
    Calls Try.prog 12 #[tv T fa fc ra rc ba bc, .int .i64 q] w fun e w' => ∃ a c, e = .returned (.tuple #[.slice a (forX T q).length c, .int .i64 (forE T q)]) ∧ At1 w' a (ints (forX T q)) ∧ Below w.heap.size w w' := by
  obtain ⟨iI, hiI, zI0, zI1, zI2⟩ := info_parts infoI
  have hB := below_new w (.cells #[.int .i64 T.lits, .slice fa T.foes.length fc, .slice ra T.rules.length rc, .slice ba T.beats.length bc] 27)
  have hX := heap_alloc_new w (.cells #[.int .i64 T.lits, .slice fa T.foes.length fc, .slice ra T.rules.length rc, .slice ba T.beats.length bc] 27)
  have hrl := h.rules.lim
  have hL := TR.go hB h
  have CC := hide (check_any hL)
  have HL := hide hL
  have HB := hide hB
  have HX := hide hX
  obtain ⟨e0, p0, hab⟩ : ∃ a b, checkM T = (a, b) := ⟨_, _, rfl⟩
  rw [hab] at CC
  unfold dup at CC
  simp only at CC
  have HE : Hid ((checkM T).1 = e0) := hide (by rw [hab])
  clear h hB hL hab
  go_enter Try.func12, Try.ntmps12
  go_upto_region 1 with fail
  generalize w.alloc (.cells #[.int .i64 T.lits, .slice fa T.foes.length fc, .slice ra T.rules.length rc, .slice ba T.beats.length bc] 27) = W at *
  obtain ⟨-, c0, c1, c2, c3⟩ := Bt.of hX
  clear hX
  by_cases ha : e0 = 0
  · subst ha
    go_upto_region 4 with (go_at_call 31; refine CC.out.mono ?_; rintro _ w1 ⟨rfl, hw1⟩; have HB1 := hide (HB.out.trans (hw1.mono HB.out.size)); have HL1 := hide (TR.go hw1 HL.out); have HX1 := hide ((hw1.block _ (loc_lt HX.out)).trans HX.out); clear hw1)
    clear c0 c1 c2 c3 CC HL HB HX
    obtain ⟨-, c0, c1, c2, c3⟩ := Bt.of HX1.out
    have CW := hide (within_any q T.lits)
    cases hin : inM q T.lits with
    | false =>
      have CW1 := hide (CW.out w1)
      rw [hin] at CW1
      have HF := hide (forX_out HE.out hin)
      clear hin CW
      go_wp2_with (go_at_call 33; refine CW1.out.mono ?_; rintro _ w2 ⟨rfl, hw⟩; subst w2)
      go_ret2
      rw [HF.out.1, HF.out.2]
      first | exact ⟨none, 0, rfl, fun i v hi => (by simp [ints] at hi), HB1.out⟩ | exact ⟨none, ⟨0, rfl⟩, fun i v hi => (by simp [ints] at hi), HB1.out⟩
    | true =>
      have CW1 := hide (CW.out w1)
      rw [hin] at CW1
      have HF := hide (forX_in HE.out hin)
      have hr4 := (check_ok HE.out).rl
      clear hin CW
      go_upto_region 7 with (go_at_call 33; refine CW1.out.mono ?_; rintro _ w2 ⟨rfl, hw⟩; subst w2)
      have HRU := hide HL1.out.rules
      go_wp2_with fail
      clear c0 c1 c2 c3 HL1 HX1
      go_loopw [8, 27] (fun y x wr => ∃ (k : Nat) (acc : List Int) (a : Option Addr) (d : Nat), k ≤ T.rules.length ∧ x = .int .i64 k ∧ y = .slice a acc.length d ∧ acc.length ≤ k ∧ Hid (acc = forL T kA k q) ∧ Hid (wr.ownsRow w1.heap.size 3 1 (.slice a acc.length d) acc.length (ints acc)) ∧ Hid (Below w1.heap.size w1 wr)) (fun _ x _ => T.rules.length - (intOf x).toNat)
      case atStart => exact ⟨0, [], none, 0, by omega, rfl, rfl, by simp, hide (by simp [forL]), hide (World.ownsRow_nil _ _ _ _), hide (Below.refl _ _)⟩
      case round =>
        obtain ⟨k, acc, a, d, hk, rfl, rfl, hal, HA, HRow, HBr⟩ := hrel
        by_cases hlt : k < T.rules.length
        · obtain ⟨r, hr⟩ := get_at hlt
          obtain ⟨gr, go, bd, bp, rfl, hgr, x0, x1, x2, -, hbl, -⟩ := at_R (Rules.keep HBr.out.block HRU.out) hr
          have hA := below_new wr (.cells #[.int .i64 r.kind, .int .i64 r.head, .slice bd r.body.length bp] 70)
          have hWr : w1.heap.size ≤ wr.heap.size := HBr.out.size
          have HBq := hide (HBr.out.trans (hA.mono hWr))
          have HQ : Hid (Fx wr.heap.size 70 [.int .i64 r.kind, .int .i64 r.head, .slice bd r.body.length bp] (wr.alloc (.cells #[.int .i64 r.kind, .int .i64 r.head, .slice bd r.body.length bp] 70))) := hide (heap_alloc_new wr _)
          have HRQ := hide (owns_keep HRow.out fun g hg => hA.block g (owns_lt HRow.out hg))
          have HRr := hide hr
          clear hr hA hbl HRow HBr
          go_upto_region 10 with fail
          generalize wr.alloc (.cells #[.int .i64 r.kind, .int .i64 r.head, .slice bd r.body.length bp] 70) = wq at *
          generalize wr.heap.size = gq at *
          clear x0 x1 x2
          have y1 := HQ.out.get (i := 1) rfl
          by_cases hh : r.head = q
          · have HP := hide (forL_hit HRr.out hh)
            rw [hh] at y1
            have hA := below_new wq (.cells #[.int .i64 k] 3)
            have HROW := hide (owns_keep HRQ.out fun g hg => hA.block g (owns_lt HRQ.out hg))
            have hw2 : w1.heap.size ≤ wq.heap.size := HBq.out.size
            clear hh hA HRr
            go_upto_region 12 with (at_builtin; go_must (refine wpList_append_two _ rfl _ _ 38 rfl w1.heap.size 3 iI _ 1 8 Try.underlying38 hiI zI0 zI1 zI2 rfl (by decide) _ _ (ints acc) rfl HROW.out ⟨wq.heap.size, 0, none⟩ 1 [.int .i64 k] rfl rfl (cell_one_new _ _ _) (by intro u hu; simp at hu; subst hu; rfl) (by unfold maxLen; omega) (by omega) (by simp; omega) ?_); intro g4 cap4 w4 hown4 hg4)
            have hg5 : (Value.ownBlock (.slice a acc.length d) = some g4 ∧ (wq.alloc (.cells #[.int .i64 k] 3)).grownBy w4 (some g4)) ∨ (g4 = wq.heap.size + 1 ∧ (wq.alloc (.cells #[.int .i64 k] 3)).grownBy w4 none) := by
              rcases hg4 with h | ⟨h1, h2⟩
              · exact .inl h
              · exact .inr ⟨by simpa using h1, h2⟩
            have HF4 := hide (HBq.out.trans ((grown_fr (Z := fun k => w1.heap.size ≤ k) rfl hg5 fun g e => (HRQ.out.lt g e).1).below fun k hk => ⟨by omega, by omega⟩))
            have HO4 := hide hown4
            clear hown4 hg4 hg5 y1
            go_wp2_with fail
            go_roundw
            case rel => exact ⟨k + 1, acc ++ [(k : Int)], some ⟨g4, 0, none⟩, cap4, by omega, by go_num, by rw [List.length_append]; rfl, by rw [List.length_append]; simp; omega, hide (by rw [HP.out, ← HA.out]), hide (by rw [List.length_append, ints_snoc]; exact HO4.out), HF4⟩
            case measure => simp [intOf]; omega
          · have HP := hide (forL_miss HRr.out hh)
            have hhb : (r.head == q) = false := by simpa using hh
            clear hh HRr
            go_wp2_with fail
            go_roundw
            case rel => exact ⟨k + 1, acc, a, d, by omega, by go_num, rfl, by omega, hide (by rw [HP.out]; exact HA.out), HRQ, HBq⟩
            case measure => simp [intOf]; omega
        · have HKN : Hid (acc = rulesL T kA q) := hide (by rw [HA.out]; unfold rulesL; rw [show k = T.rules.length by omega])
          clear HA
          go_wp2_with fail
          go_ret2
          rw [HF.out.1, HF.out.2, ← HKN.out]
          exact ⟨a, d, rfl, owns_at1 HRow.out, HB1.out.trans (HBr.out.mono HB1.out.size)⟩
  · have hab2 : (e0 != 0) = true := by simpa using ha
    have HF := hide (forX_bad (T := T) (q := q) (by rw [HE.out]; exact ha))
    go_wp2_with (go_at_call 31; refine CC.out.mono ?_; rintro _ w1 ⟨rfl, hw1⟩; have HB1 := hide (HB.out.trans (hw1.mono HB.out.size)); clear hw1)
    go_ret2
    rw [HF.out.1, HF.out.2, HE.out]
    first | exact ⟨none, 0, rfl, fun i v hi => (by simp [ints] at hi), HB1.out⟩ | exact ⟨none, ⟨0, rfl⟩, fun i v hi => (by simp [ints] at hi), HB1.out⟩
end Go.Proofs.Ytdmnoeooljofcaa
