/- defend, withdraw. -/
import Derived.Test.YthifoamnmhlghaaGreatFs6
namespace Go.Proofs.YthifoamnmhlghaaGreat.Fa
open Go.RowKit

section
variable {N : Nat} {S : Nat → Prop} {A : Ad} {T : Th} {F : List Int} {n : Nat} {e : Es} {tv : Value} {w w' : World}
theorem LL.stay {L : Int → List Int} {b : Nat} (h : LL S L n b w) {i : Nat} (hi : i < n) : ∃ a c, w.cell? ⟨b, i, none⟩ = some (.slice a (L i).length c) ∧ ∀ w' : World, (∀ k, S k → w'.heap[k]? = w.heap[k]?) → At1 w' a (ints (L i)) := by
  obtain ⟨_, vs, hf, hl, h⟩ := h
  obtain ⟨a, c, h1, h2, h3⟩ := h i hi
  refine ⟨a, c, hf.get h1, fun w' hk j v hj => ?_⟩
  obtain ⟨g, o, e, hc⟩ := h2 j v hj
  refine ⟨g, o, e, (World.cell?_of_block (hk g (h3 g o e fun e2 => ?_))).trans hc⟩
  rw [e2] at hj
  simp [ints] at hj
theorem En.stay (h : En N S A T F n e tv w) (hf : Fr (fun k => ¬ S k) w w') : ∀ k, S k → w'.heap[k]? = w.heap[k]? := fun k hk => hf.block k (h.kp k hk).1 fun hn => hn hk
/-- A rule's head, and what it beats. -/
theorem rule_stay (h : En N S A T F n e tv w) {r : Nat} (hr : r < T.rules.length) : ∃ (hm g o : Nat), headOf T r = (hm : Int) ∧ hm < n ∧ A.ra = some ⟨g, o, none⟩ ∧ ∀ w' : World, (∀ k, S k → w'.heap[k]? = w.heap[k]?) → w'.cell? ⟨g, o + r * 3 + 1, none⟩ = some (.int .i64 hm) := by
  obtain ⟨x, hx, hhx, hx0, hx1⟩ := head_in h.pf hr
  obtain ⟨hm, hhm⟩ := Int.eq_ofNat_of_zero_le hx0
  obtain ⟨gr, go, bd, bp, er, hg, -, x1, -, -, -, -⟩ := at_R h.ro.ta.rules hx
  exact ⟨hm, gr, go, by rw [hhx, hhm], by omega, er, fun w' hk => by rw [World.cell?_of_block (hk gr (h.ro.n0 gr hg)), x1, hhm]⟩
theorem beats_stay (h : En N S A T F n e tv w) {r : Nat} (hr : r < T.rules.length) : ∃ l a c g o, row T.beats r = l ∧ A.ba = some ⟨g, o, none⟩ ∧ r < T.beats.length ∧ l.length ≤ 4096 ∧ w.cell? ⟨g, o + r, none⟩ = some (.slice a l.length c) ∧ (∀ s ∈ l, ∃ sm : Nat, s = (sm : Int) ∧ sm < T.rules.length ∧ headOf T s ∈ row T.foes (headOf T r)) ∧ l.Nodup ∧ ∀ w' : World, (∀ k, S k → w'.heap[k]? = w.heap[k]?) → At1 w' a (ints l) := by
  have hbl := h.pf.ok.bl
  obtain ⟨l, hl⟩ := get_at (l := T.beats) (i := r) (by omega)
  have er : row T.beats (r : Int) = l := row_at (by rw [Int.toNat_natCast]; exact hl)
  obtain ⟨g, o, a2, c2, e1, -, hc, -, -, hI⟩ := at_L h.ro.ta.beats hl
  obtain ⟨hb1, hb2⟩ := h.pf.ok.beat r l hl
  obtain ⟨hin, hpw⟩ := risesF_in2 (by omega) hb1
  have hrl := h.pf.ok.rl
  have hlen : l.length ≤ T.rules.length := by
    have h2 : (l.map Int.toNat).Nodup := nodup_map (pw_nodup hpw) fun x hx y hy hxy => by have := (hin x hx).1; have := (hin y hy).1; omega
    have := nodup_len (N := T.rules.length) h2 fun k hk => by
      obtain ⟨x, hx, rfl⟩ := List.mem_map.1 hk
      have := hin x hx
      omega
    simpa using this
  refine ⟨l, a2, c2, g, o, er, e1, (List.getElem?_eq_some_iff.1 hl).1, by omega, hc, fun s hs => ?_, pw_nodup hpw, fun w' hk => (Ints.keep (fun g hg => hk g (h.ro.n0 g hg)) hI).at1⟩
  obtain ⟨s0, s1⟩ := hin s hs
  obtain ⟨sm, rfl⟩ := Int.eq_ofNat_of_zero_le (show 0 ≤ s by omega)
  exact ⟨sm, rfl, by omega, hb2 _ hs⟩
theorem team_mem {r : Nat} (ht : teamB T r = true) : (r : Int) ∈ rulesL T kT (headOf T r) := by
  unfold teamB at ht
  rw [Int.toNat_natCast] at ht
  cases hR : T.rules[r]? with
  | none => rw [hR] at ht; cases ht
  | some x =>
    rw [hR] at ht
    refine mem_rules.2 ⟨r, x, rfl, hR, ht, ?_⟩
    unfold headOf
    rw [Int.toNat_natCast, hR]
    rfl
theorem beaten_rival (h : Pf T F n) {r : Nat} (hr : r < T.rules.length) (ht : teamB T r = true) {s : Int} (hs : headOf T s ∈ row T.foes (headOf T r)) : headOf T r ∈ rivalsL T (headOf T s) := by
  obtain ⟨x, hx, hhx, hx0, hx1⟩ := head_in h hr
  refine mem_rival.2 ⟨foe_sym h (by rw [hhx]; exact hx0) (by rw [hhx]; exact hx1) hs, fun e0 => ?_⟩
  have := team_mem ht
  rw [e0] at this
  cases this
theorem fold_snoc {α : Type} {f : Es → α → Es} {e : Es} {l : List α} {k : Nat} {x : α} (hx : l[k]? = some x) : (l.take (k + 1)).foldl f e = f ((l.take k).foldl f e) x := by rw [take_snoc hx, List.foldl_append]; rfl
theorem rivals_nd (h : Pf T F n) {s : Nat} (hs : s < T.rules.length) : (rivalsL T (headOf T s)).Nodup := by
  obtain ⟨x, -, hhx, hx0, hx1⟩ := head_in h hs
  obtain ⟨hm, hhm⟩ := Int.eq_ofNat_of_zero_le hx0
  rw [hhx, hhm]
  exact pw_nodup (rival_pw h (by omega))
set_option maxRecDepth 100000 in
set_option maxHeartbeats 6400000 in
theorem defend_any {r : Nat} (h : Eg N S A T F n e w) (hr : r < T.rules.length) (ht : teamB T r = true) :
    Calls Tryz.prog 34 #[ptr A.K, .int .i64 r] w fun o w' => o = .returned (.tuple #[]) ∧ Eg N S A T F n (defendE T e r) w' ∧ Fr (fun k => ¬ S k) w w' := by
  have HE0 := hide h
  obtain ⟨tv, h⟩ := h
  have HE := hide h
  have hrl : T.rules.length ≤ 4096 := h.pf.ok.rl
  obtain ⟨hm, gr, go, hh, hmn, er, hx1⟩ := rule_stay h hr
  have x1 := hx1 w fun _ _ => rfl
  obtain ⟨l, la, lc, gb, ob, el, eb, hrb, hll, cb, hin, -, hst⟩ := beats_stay h hr
  have k2 := h.bx.get (i := 2) rfl
  have k3 := h.bx.get (i := 3) rfl
  rw [er] at k2
  rw [eb] at k3
  have HIN := hide hin
  have HST := hide hst
  have HRV : Hid (∀ s : Nat, (s : Int) ∈ l → s < T.rules.length ∧ (hm : Int) ∈ rivalsL T (headOf T s)) := hide fun s hs => by
    obtain ⟨sm, e1, h1, h2⟩ := hin s hs
    have : s = sm := by omega
    subst this
    refine ⟨h1, ?_⟩
    have := beaten_rival h.pf hr ht h2
    rw [hh] at this
    exact this
  have HR : Hid (defendE T e r = l.foldl (beat1 (hm : Int)) e) := hide (by unfold defendE; rw [el, hh])
  clear h hx1 hin hst er eb el hh ht
  go_enter Tryz.func34, Tryz.ntmps34
  go_wp2_with fail
  clear k2 k3 cb x1
  go_loopw [28] (fun x wr => ∃ k : Nat, k ≤ l.length ∧ x = .int .i64 k ∧ Hid (Eg N S A T F n ((l.take k).foldl (beat1 (hm : Int)) e) wr) ∧ Hid (Fr (fun k => ¬ S k) w wr)) (fun x _ => l.length - (intOf x).toNat)
  case atStart => exact ⟨0, by omega, rfl, hide HE0.out, hide (Fr.refl _ _)⟩
  case round =>
    obtain ⟨k, hk, rfl, HEr, HFr⟩ := hrel
    by_cases hlt : k < l.length
    · obtain ⟨s0, hs⟩ := get_at hlt
      obtain ⟨s, rfl, hsR, -⟩ := HIN.out s0 (List.mem_of_getElem? hs)
      obtain ⟨-, hrv⟩ := HRV.out s (List.mem_of_getElem? hs)
      obtain ⟨gx, ox, rfl, cx⟩ := (HST.out wr (HE.out.stay HFr.out)).get hs
      have HNX : Hid ((l.take (k + 1)).foldl (beat1 (hm : Int)) e = beat1 (hm : Int) ((l.take k).foldl (beat1 (hm : Int)) e) s) := hide (fold_snoc hs)
      clear hs
      generalize (l.take k).foldl (beat1 (hm : Int)) e = e1 at HEr HNX
      obtain ⟨tv1, hE1⟩ := HEr.out
      clear HEr
      obtain ⟨p, hp, hpl, hpm, c1, -, c3⟩ := clash_at hE1 hsR hrv
      have hnd := rivals_nd hE1.pf hsR
      have z16 := hE1.bx.get (i := 16) rfl
      have CP := hide fun d : Nat => placeOf_any (hE1.drewN d) hsR hp
      obtain ⟨rln, hrln⟩ : ∃ rln, (rivalsL T (headOf T (s : Int))).length = rln := ⟨_, rfl⟩
      rw [hrln] at c1 hpl hpm
      have HE1 := hide hE1
      have HP := hide hp
      have HND := hide hnd
      cases hcb : e1.cb s hm with
      | true =>
        have HT : Hid (beat1 (hm : Int) e1 s = e1) := hide (by unfold beat1; rw [hcb]; rfl)
        rw [hcb] at c3
        clear hcb hE1 hp hnd hrv hrln
        go_upto_region 4 with fail
        go_quiet ((go_at_call 52; exact Calls.quiet_of (CP.out _)))
        go_wp2_with fail
        go_roundw
        case rel => exact ⟨k + 1, by omega, by go_num, hide (by rw [HNX.out, HT.out]; exact ⟨tv1, HE1.out.drewN _⟩), hide (HFr.out.trans (Fr.of_below (below_drewN wr _)))⟩
        case measure => simp [intOf]; omega
      | false =>
        rw [hcb] at c3
        have hs1 := fun d : Nat => (hE1.drewN d).setCb hsR hp hnd true
        have HS2 := hide fun d : Nat => (hs1 d).1.setUp (inc e1.up)
        have HF2 := hide fun d : Nat => ((Fr.of_below (Z := fun k => ¬ S k) (below_drewN wr d)).trans (hs1 d).2).trans (HS2.out d).2
        have CS := hide fun d : Nat => setB_any (w := wr.drewN d) (K := A.K) (g := A.cr s) (i := p * 2 + 1) (v := true) (x := .bool false) c3 ((hE1.drewN d |>.cr s hsR).frz _) ((hs1 d).1.bx.get (i := 21) rfl) ((hs1 d).1.bx.frz 21)
        cases hdr : dropped e1 s with
        | true =>
          have HT : Hid (beat1 (hm : Int) e1 s = { e1 with cb := upd e1.cb s (upd (e1.cb s) hm true), up := inc e1.up }) := hide (by
            unfold beat1
            rw [hcb, if_neg (by decide)]
            have : dropped { e1 with cb := upd e1.cb s (upd (e1.cb s) hm true), up := inc e1.up } s = true := hdr
            show (if dropped { e1 with cb := upd e1.cb s (upd (e1.cb s) hm true), up := inc e1.up } s then _ else _) = _
            rw [if_pos this])
          have CD := hide fun d : Nat => dropped_any (HS2.out d).1 hsR
          have HDD : Hid (dropped { e1 with cb := upd e1.cb s (upd (e1.cb s) hm true), up := inc e1.up } s = true) := hide hdr
          clear hcb hE1 hp hnd hrv hrln hs1 hdr
          go_upto_region 4 with fail
          go_quiet ((go_at_call 52; exact Calls.quiet_of (CP.out _)))
          go_wp2_with (first | (go_at_call 53; refine (CS.out _).mono ?_; rintro _ w2 ⟨rfl, rfl⟩) | (go_at_call 54; refine (CD.out _).mono ?_; rintro _ w3 ⟨hr3, rfl⟩; have hr4 := hr3.trans (by rw [HDD.out]); subst hr4; clear hr3))
          go_roundw
          case rel => exact ⟨k + 1, by omega, by go_num, hide (by rw [HNX.out, HT.out]; exact ⟨tv1, (HS2.out _).1⟩), hide (HFr.out.trans (HF2.out _))⟩
          case measure => simp [intOf]; omega
        | false =>
          have HT : Hid (beat1 (hm : Int) e1 s = clearE { e1 with cb := upd e1.cb s (upd (e1.cb s) hm true), up := inc e1.up } hm) := hide (by
            unfold beat1
            rw [hcb, if_neg (by decide)]
            have : dropped { e1 with cb := upd e1.cb s (upd (e1.cb s) hm true), up := inc e1.up } s = false := hdr
            show (if dropped { e1 with cb := upd e1.cb s (upd (e1.cb s) hm true), up := inc e1.up } s then _ else _) = _
            rw [this, if_neg (by decide)])
          have CD := hide fun d : Nat => dropped_any (HS2.out d).1 hsR
          have HDD : Hid (dropped { e1 with cb := upd e1.cb s (upd (e1.cb s) hm true), up := inc e1.up } s = false) := hide hdr
          have CC := hide fun d : Nat => clear_any (HS2.out d).1 hmn
          clear hcb hE1 hp hnd hrv hrln hs1 hdr
          go_upto_region 4 with fail
          go_quiet ((go_at_call 52; exact Calls.quiet_of (CP.out _)))
          go_wp2_with (first | (go_at_call 53; refine (CS.out _).mono ?_; rintro _ w2 ⟨rfl, rfl⟩) | (go_at_call 54; refine (CD.out _).mono ?_; rintro _ w3 ⟨hr3, rfl⟩; have hr4 := hr3.trans (by rw [HDD.out]); subst hr4; clear hr3) | (go_at_call 55; refine (CC.out _).mono ?_; rintro _ w4 ⟨rfl, he, hf⟩; have HE4 := hide he; have HF4 := hide ((HF2.out _).trans hf); clear he hf))
          go_roundw
          case rel => exact ⟨k + 1, by omega, by go_num, hide (by rw [HNX.out, HT.out]; exact ⟨tv1, HE4.out⟩), hide (HFr.out.trans HF4.out)⟩
          case measure => simp [intOf]; omega
    · have HL : Hid (l.take k = l) := hide (List.take_of_length_le (by omega))
      go_wp2_with fail
      go_end0
      exact ⟨rfl, by rw [HR.out]; have := HEr.out; rw [HL.out] at this; exact this, HFr.out⟩
end
end Go.Proofs.YthifoamnmhlghaaGreat.Fa
