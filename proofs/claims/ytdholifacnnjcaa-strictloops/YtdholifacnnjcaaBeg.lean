/- begin: the first round. -/
import Derived.Test.YtdholifacnnjcaaSay
namespace Go.Proofs.Ytdholifacnnjcaa
open Go.RowKit

/-- What the first round keeps. -/
structure Bg (K : Nat → Prop) (T : Th) (F : List Int) (a : Adr) (n R : Nat) (ms op : List Int) (H : List (List Int)) (vs : List Value) (s : Cs) (w0 w : World) : Prop where
  ck : ∃ qv, Ck K a n R s H vs qv w
  fs : Fst T F n ms op s
  fr : Fr (fun k => ¬ K k) w0 w
  su : lackN s.cm + s.qu.length = n
section
variable {K : Nat → Prop} {T : Th} {F : List Int} {a : Adr} {n R : Nat} {ms op : List Int} {H : List (List Int)} {vs : List Value} {s : Cs} {w0 w w' : World}
theorem Bg.next (h : Bg K T F a n R ms op H vs s w0 w) {l i : Int} (hl : 0 ≤ l ∧ l < (n : Int)) (hi : i = 1 ∨ i = 2) (hp : i = 1 → hit s.cm l = true ∨ PD T F l) (hm : i = 2 → hit s.cm l = true ∨ MD T F l) (hc : ∃ qv, Ck K a n R (sayM s l i 1) H vs qv w') (hf : Fr (fun k => ¬ K k) w w') : Bg K T F a n R ms op H vs (sayM s l i 1) w0 w' :=
  ⟨hc, h.fs.say hl hi hp hm, h.fr.trans hf, by rw [say_sum (by rw [h.fs.st.lcm]; exact hl)]; exact h.su⟩
theorem Bg.say (h : Bg K T F a n R ms op H vs s w0 w) (hn : n ≤ 4096) {l i : Int} (hl : 0 ≤ l ∧ l < (n : Int)) :
    Calls Try.prog 25 #[.int .i64 l, .int .i64 i, .int .i64 1, ptr a.pb, ptr a.sb] w fun e w' => e = .returned (.tuple #[]) ∧ (∃ qv, Ck K a n R (sayM s l i 1) H vs qv w') ∧ Fr (fun k => ¬ K k) w w' :=
  say_any h.ck hl h.fs.st.lcm h.fs.st.lsg h.fs.st.lrd (by have := h.su; omega)
theorem Bg.go (h : Bg K T F a n R ms op H vs s w0 w) (hb : Below w.heap.size w w') : Bg K T F a n R ms op H vs s w0 w' := by
  obtain ⟨qv, hc⟩ := h.ck
  exact ⟨⟨qv, hc.go hb⟩, h.fs, h.fr.trans (Fr.of_below hb), h.su⟩
theorem Bg.blk (h : Bg K T F a n R ms op H vs s w0 w) {k : Nat} (hk : K k) (hl : k < w0.heap.size) : w.heap[k]? = w0.heap[k]? := h.fr.block k hl (fun hn => hn hk)
theorem hit_say {l i m : Int} (hl : 0 ≤ l ∧ l < s.cm.length) : hit (sayM s l i m).cm l = true := by rw [say_cm hl hl.1]; simp
theorem hit_keep {l i m y : Int} (hl : 0 ≤ l ∧ l < s.cm.length) (h0 : 0 ≤ y) (hy : hit s.cm y = true) : hit (sayM s l i m).cm y = true := by rw [say_cm hl h0, hy]; rfl
end
set_option maxRecDepth 100000 in
set_option maxHeartbeats 12800000 in
theorem begin_any {K : Nat → Prop} {T : Th} {F : List Int} {a : Adr} {n : Nat} {ms op : List Int} {H : List (List Int)} {vs : List Value} {w : World} {N : Nat} {fa ra ba ea : Option Addr} {fc rc bc ec : Nat}
    (h : TA N w T fa fc ra rc ba bc) (hF : Ints N w F (.slice ea F.length ec)) (hNK : ∀ k, k < N → K k) (hNw : N ≤ w.heap.size) (hw : Nm T F n) (hn : n ≤ 4096) (hc : Cnt T n T.rules.length ms op)
    (hck : ∃ qv, Ck K a n T.rules.length (stZ T n ms op) H vs qv w) :
    Calls Try.prog 27 #[tv T fa fc ra rc ba bc, .slice ea F.length ec, ptr a.kb, .func (.func 25) #[] #[ptr a.pb, ptr a.sb]] w fun e w' => e = .returned (.tuple #[]) ∧ ∃ s, (∃ qv, Ck K a n T.rules.length s H vs qv w') ∧ Betw T F n s ∧ Fr (fun k => ¬ K k) w w' ∧ lackN s.cm + s.qu.length = n := by
  have hB := below_new w (.cells #[.int .i64 T.lits, .slice fa T.foes.length fc, .slice ra T.rules.length rc, .slice ba T.beats.length bc] 25)
  have hX := heap_alloc_new w (.cells #[.int .i64 T.lits, .slice fa T.foes.length fc, .slice ra T.rules.length rc, .slice ba T.beats.length bc] 25)
  have HW := hide hw
  have HC := hide hc
  have HRU := hide (Rules.keep (fun g hg => hB.block g (by omega)) h.rules)
  have HFI := hide (Ints.keep (fun g hg => hB.block g (by omega)) hF)
  have hFl := hF.lim
  have hRl := (lim_of h.rules)
  have HNK := hide hNK
  have HB := hide hB
  have HX := hide hX
  have HS0 : Hid (N ≤ w.heap.size) := hide hNw
  have HBG : Hid (Bg (fun k => K k ∨ k = w.heap.size) T F a n T.rules.length ms op H vs (stZ T n ms op) (w.alloc (.cells #[.int .i64 T.lits, .slice fa T.foes.length fc, .slice ra T.rules.length rc, .slice ba T.beats.length bc] 25)) (w.alloc (.cells #[.int .i64 T.lits, .slice fa T.foes.length fc, .slice ra T.rules.length rc, .slice ba T.beats.length bc] 25))) := hide (by
    obtain ⟨qv, hq⟩ := hck
    exact ⟨⟨qv, hq.more _⟩, Fst.start hc, Fr.refl _ _, by show lackN (List.replicate n false) + 0 = n; have := lack_none (n := n); omega⟩)
  clear h hF hNK hw hc hck hB
  go_enter Try.func27, Try.ntmps27
  go_upto_region 1 with fail
  generalize w.alloc (.cells #[.int .i64 T.lits, .slice fa T.foes.length fc, .slice ra T.rules.length rc, .slice ba T.beats.length bc] 25) = W at *
  have hQW : w.heap.size < W.heap.size := loc_lt HX.out
  have HKb : Hid (∀ (s : Cs) (wr : World), Bg (fun k => K k ∨ k = w.heap.size) T F a n T.rules.length ms op H vs s W wr → (∀ g, g < N → wr.heap[g]? = W.heap[g]?) ∧ wr.heap[w.heap.size]? = W.heap[w.heap.size]?) := hide fun s wr hb => ⟨fun g hg => hb.blk (.inl (HNK.out g hg)) (by have := HS0.out; omega), hb.blk (.inr rfl) hQW⟩
  go_upto_region 2 with fail
  go_loopw [16] (fun x wr => ∃ (k : Nat) (s : Cs), k ≤ F.length ∧ x = .int .i64 k ∧ Hid (Bg (fun k => K k ∨ k = w.heap.size) T F a n T.rules.length ms op H vs s W wr) ∧ Hid (∀ q ∈ F.take k, hit s.cm q = true)) (fun x _ => F.length - (intOf x).toNat)
  case atStart => exact ⟨0, _, by omega, rfl, HBG, hide (by simp)⟩
  case round =>
    clear HBG
    obtain ⟨k, s, hk, rfl, HBG, HFC⟩ := hrel
    by_cases hlt : k < F.length
    · obtain ⟨x, hx⟩ := get_at hlt
      have hxF := List.mem_of_getElem? hx
      obtain ⟨gx, ox, rfl, hgx, cx⟩ := at_I (HFI.out.keep (HKb.out s wr HBG.out).1) hx
      have hx0 := HW.out.fact x hxF
      have CS := hide (HBG.out.say (i := 1) hn hx0)
      have HNX : Hid (∀ w', (∃ qv, Ck (fun k => K k ∨ k = w.heap.size) a n T.rules.length (sayM s x 1 1) H vs qv w') → Fr (fun k => ¬ (K k ∨ k = w.heap.size)) wr w' → Bg (fun k => K k ∨ k = w.heap.size) T F a n T.rules.length ms op H vs (sayM s x 1 1) W w') := hide fun w' h1 h2 => HBG.out.next hx0 (.inl rfl) (fun _ => .inr (.fact hxF)) (fun e => by cases e) h1 h2
      have HF2 : Hid (∀ q ∈ F.take (k + 1), hit (sayM s x 1 1).cm q = true) := hide (by
        have hl : 0 ≤ x ∧ x < s.cm.length := by rw [HBG.out.fs.st.lcm]; exact hx0
        intro q hq
        rw [take_snoc hx] at hq
        rcases List.mem_append.1 hq with hq | hq
        · exact hit_keep hl (HW.out.fact q (List.mem_of_mem_take hq)).1 (HFC.out q hq)
        · have : q = x := by simpa using hq
          subst this
          exact hit_say hl)
      clear hx hxF hx0 HBG HFC
      go_wp2_with (go_at_call 25; refine CS.out.mono ?_; rintro _ w3 ⟨rfl, hco, hf⟩; have HB3 := hide (HNX.out w3 hco hf); clear hco hf)
      go_roundw
      case rel => exact ⟨k + 1, _, by omega, by go_num, HB3, HF2⟩
      case measure => simp [intOf]; omega
    · have HFC2 : Hid (Fc F s) := hide (by have := HFC.out; rw [List.take_of_length_le (by omega)] at this; exact this)
      clear HFC
      have HXr := hide ((HKb.out s wr HBG.out).2.trans HX.out)
      obtain ⟨-, c0, c1, c2, c3⟩ := Bt.of HXr.out
      go_upto_region 7 with fail
      clear c0 c1 c2 c3 HXr
      go_loopw [27] (fun x wr => ∃ (k : Nat) (s : Cs), k ≤ T.rules.length ∧ x = .int .i64 k ∧ Hid (Bg (fun k => K k ∨ k = w.heap.size) T F a n T.rules.length ms op H vs s W wr) ∧ Hid (Fc F s) ∧ Hid (∀ (r : Nat) x, r < k → T.rules[r]? = some x → x.kind = 1 → x.body = [] → hit s.cm x.head = true)) (fun x _ => T.rules.length - (intOf x).toNat)
      case atStart => exact ⟨0, s, by omega, rfl, HBG, HFC2, hide (fun r x h => by omega)⟩
      case round =>
        clear HBG HFC2
        obtain ⟨k, s, hk, rfl, HBG, HFC, HEM⟩ := hrel
        by_cases hlt : k < T.rules.length
        · obtain ⟨r, hr⟩ := get_at hlt
          obtain ⟨gr, go, bd, bp, rfl, hgr, x0, x1, x2, -, hbl, -⟩ := at_R (HRU.out.keep (HKb.out s wr HBG.out).1) hr
          have hmem := List.mem_of_getElem? hr
          have hh := HW.out.head r hmem
          have hA := below_new wr (.cells #[.int .i64 r.kind, .int .i64 r.head, .slice bd r.body.length bp] 36)
          have HQ : Hid (Fx wr.heap.size 36 [.int .i64 r.kind, .int .i64 r.head, .slice bd r.body.length bp] (wr.alloc (.cells #[.int .i64 r.kind, .int .i64 r.head, .slice bd r.body.length bp] 36))) := hide (heap_alloc_new wr _)
          have HBA := hide (HBG.out.go hA)
          clear hA
          by_cases hk1 : r.kind = 1
          · by_cases hb0 : r.body = []
            · have CS := hide (HBA.out.say (i := 1) hn hh)
              have hbe : r.body.length = 0 := by rw [hb0]; rfl
              have HNX : Hid (∀ w', (∃ qv, Ck (fun k => K k ∨ k = w.heap.size) a n T.rules.length (sayM s r.head 1 1) H vs qv w') → Fr (fun k => ¬ (K k ∨ k = w.heap.size)) (wr.alloc (.cells #[.int .i64 r.kind, .int .i64 r.head, .slice bd r.body.length bp] 36)) w' → Bg (fun k => K k ∨ k = w.heap.size) T F a n T.rules.length ms op H vs (sayM s r.head 1 1) W w') := hide fun w' h1 h2 => HBA.out.next hh (.inl rfl) (fun _ => .inr (.rule hmem hk1 (by rw [hb0]; intro x hx; cases hx))) (fun e => by cases e) h1 h2
              have hl : 0 ≤ r.head ∧ r.head < s.cm.length := by rw [HBG.out.fs.st.lcm]; exact hh
              have HF2 := hide (HFC.out.say (i := 1) (m := 1) (fun q hq => (HW.out.fact q hq).1) hl)
              have HE2 : Hid (∀ (b : Nat) x, b < k + 1 → T.rules[b]? = some x → x.kind = 1 → x.body = [] → hit (sayM s r.head 1 1).cm x.head = true) := hide (by
                intro b x hb hx hkx hbx
                by_cases e : b = k
                · subst e
                  rw [hr] at hx
                  cases hx
                  exact hit_say hl
                · exact hit_keep hl (HW.out.head x (List.mem_of_getElem? hx)).1 (HEM.out b x (by omega) hx hkx hbx))
              rw [hk1, hbe] at CS HNX HQ
              rw [hk1] at x0
              rw [hbe] at x2
              clear hr hmem hh hl HBG HFC HEM HBA hk1 hb0 hbe hbl
              go_upto_region 9 with fail
              have y0 := HQ.out.get (i := 0) rfl
              have y1 := HQ.out.get (i := 1) rfl
              have y2 := HQ.out.get (i := 2) rfl
              generalize wr.alloc (.cells #[.int .i64 1, .int .i64 r.head, .slice bd 0 bp] 36) = wq at *
              go_wp2_with (go_at_call 25; refine CS.out.mono ?_; rintro _ w3 ⟨rfl, hco, hf⟩; have HB3 := hide (HNX.out w3 hco hf); clear hco hf)
              go_roundw
              case rel => exact ⟨k + 1, _, by omega, by go_num, HB3, HF2, HE2⟩
              case measure => simp [intOf]; omega
            · have HE2 : Hid (∀ (b : Nat) x, b < k + 1 → T.rules[b]? = some x → x.kind = 1 → x.body = [] → hit s.cm x.head = true) := hide (by
                intro b x hb hx hkx hbx
                by_cases e : b = k
                · subst e
                  rw [hr] at hx
                  cases hx
                  exact absurd hbx hb0
                · exact HEM.out b x (by omega) hx hkx hbx)
              have hb1 : 0 < r.body.length := List.length_pos_iff.2 hb0
              have hb2 : ((r.body.length : Int) == 0) = false := by simp; exact hb0
              have hb3 : (r.body.length == 0) = false := by simp; exact hb0
              rw [hk1] at x0 HQ HBA
              clear hr hmem hh HBG HEM hk1 hb0
              generalize r.body.length = bl at *
              go_upto_region 9 with fail
              have y0 := HQ.out.get (i := 0) rfl
              have y2 := HQ.out.get (i := 2) rfl
              generalize wr.alloc (.cells #[.int .i64 1, .int .i64 r.head, .slice bd bl bp] 36) = wq at *
              go_wp2_with fail
              go_roundw
              case rel => exact ⟨k + 1, s, by omega, by go_num, HBA, HFC, HE2⟩
              case measure => simp [intOf]; omega
          · have HE2 : Hid (∀ (b : Nat) x, b < k + 1 → T.rules[b]? = some x → x.kind = 1 → x.body = [] → hit s.cm x.head = true) := hide (by
              intro b x hb hx hkx hbx
              by_cases e : b = k
              · subst e
                rw [hr] at hx
                cases hx
                exact absurd hkx hk1
              · exact HEM.out b x (by omega) hx hkx hbx)
            have hk2 : (r.kind == 1) = false := by simpa using hk1
            clear hr hmem hh HBG HEM hk1
            go_upto_region 9 with fail
            have y0 := HQ.out.get (i := 0) rfl
            generalize wr.alloc (.cells #[.int .i64 r.kind, .int .i64 r.head, .slice bd r.body.length bp] 36) = wq at *
            go_wp2_with fail
            go_roundw
            case rel => exact ⟨k + 1, s, by omega, by go_num, HBA, HFC, HE2⟩
            case measure => simp [intOf]; omega
        · have HEM2 : Hid (∀ (r : Nat) x, T.rules[r]? = some x → x.kind = 1 → x.body = [] → hit s.cm x.head = true) := hide fun r x hr => HEM.out r x (by have := (List.getElem?_eq_some_iff.1 hr).1; omega) hr
          clear HEM
          obtain ⟨qv, hck⟩ := HBG.out.ck
          have k2 := hck.kbx.get (i := 2) rfl
          clear hck
          go_upto_region 13 with fail
          clear k2
          go_loopw [50] (fun x wr => ∃ (k : Nat) (s : Cs), k ≤ n ∧ x = .int .i64 k ∧ Hid (Bg (fun k => K k ∨ k = w.heap.size) T F a n T.rules.length ms op H vs s W wr) ∧ Hid (Fc F s) ∧ Hid (∀ (r : Nat) x, T.rules[r]? = some x → x.kind = 1 → x.body = [] → hit s.cm x.head = true) ∧ Hid (∀ q : Nat, q < k → op.getD q 0 = 0 → s.cm.getD q false = true)) (fun x _ => n - (intOf x).toNat)
          case atStart => exact ⟨0, s, by omega, rfl, HBG, HFC, HEM2, hide (fun q h => by omega)⟩
          case round =>
            clear HBG HFC HEM2
            obtain ⟨k, s, hk, rfl, HBG, HFC, HEM, HOP⟩ := hrel
            by_cases hlt : k < n
            · obtain ⟨qv, hck⟩ := HBG.out.ck
              have co := hck.orw.get (int_at (l := s.op) (k := k) (by rw [HBG.out.fs.st.lop]; exact hlt))
              rw [HBG.out.fs.eo] at co
              clear hck
              have hkk : (0 : Int) ≤ (k : Int) ∧ (k : Int) < (n : Int) := by omega
              by_cases ho : op.getD k 0 = 0
              · have CS := hide (HBG.out.say (i := 2) hn hkk)
                have HNX : Hid (∀ w', (∃ qv, Ck (fun k => K k ∨ k = w.heap.size) a n T.rules.length (sayM s k 2 1) H vs qv w') → Fr (fun k => ¬ (K k ∨ k = w.heap.size)) wr w' → Bg (fun k => K k ∨ k = w.heap.size) T F a n T.rules.length ms op H vs (sayM s k 2 1) W w') := hide fun w' h1 h2 => HBG.out.next hkk (.inr rfl) (fun e => by cases e) (fun _ => by
                  by_cases hf : (k : Int) ∈ F
                  · exact .inl (HFC.out _ hf)
                  · exact .inr (HC.out.none_md hlt ho hf)) h1 h2
                have hl : 0 ≤ (k : Int) ∧ (k : Int) < s.cm.length := by rw [HBG.out.fs.st.lcm]; exact hkk
                have HF2 := hide (HFC.out.say (i := 2) (m := 1) (fun q hq => (HW.out.fact q hq).1) hl)
                have HE2 : Hid (∀ (r : Nat) x, T.rules[r]? = some x → x.kind = 1 → x.body = [] → hit (sayM s k 2 1).cm x.head = true) := hide fun r x hr hkx hbx => hit_keep hl (HW.out.head x (List.mem_of_getElem? hr)).1 (HEM.out r x hr hkx hbx)
                have HO2 : Hid (∀ q : Nat, q < k + 1 → op.getD q 0 = 0 → (sayM s k 2 1).cm.getD q false = true) := hide (by
                  intro q hq h0
                  by_cases e : q = k
                  · subst e
                    have := hit_say (s := s) (i := 2) (m := 1) hl
                    unfold hit at this
                    simpa using this
                  · have := hit_keep (s := s) (i := 2) (m := 1) hl (y := (q : Int)) (by omega) (by unfold hit; simpa using HOP.out q (by omega) h0)
                    unfold hit at this
                    simpa using this)
                rw [ho] at co
                clear ho hl hkk HBG HFC HEM HOP
                go_wp2_with (go_at_call 25; refine CS.out.mono ?_; rintro _ w3 ⟨rfl, hco, hf⟩; have HB3 := hide (HNX.out w3 hco hf); clear hco hf)
                go_roundw
                case rel => exact ⟨k + 1, _, by omega, by go_num, HB3, HF2, HE2, HO2⟩
                case measure => simp [intOf]; omega
              · have HO2 : Hid (∀ q : Nat, q < k + 1 → op.getD q 0 = 0 → s.cm.getD q false = true) := hide (by
                  intro q hq h0
                  by_cases e : q = k
                  · subst e; exact absurd h0 ho
                  · exact HOP.out q (by omega) h0)
                have ho2 : (op.getD k 0 == 0) = false := beq_eq_false_iff_ne.2 ho
                clear ho HOP hkk
                generalize op.getD k 0 = ov at *
                go_wp2_with fail
                go_roundw
                case rel => exact ⟨k + 1, s, by omega, by go_num, HBG, HFC, HEM, HO2⟩
                case measure => simp [intOf]; omega
            · have HFIN : Hid (Betw T F n s) := hide (HBG.out.fs.betw HFC.out HEM.out HC.out fun q hq h0 => HOP.out q (by omega) h0)
              go_wp2_with fail
              go_end0
              obtain ⟨qv, hck⟩ := HBG.out.ck
              refine ⟨rfl, s, ⟨qv, hck.less fun k hk => .inl hk⟩, HFIN.out, ?_, HBG.out.su⟩
              have h1 : Fr (fun k => ¬ K k) w W := Fr.of_below HB.out
              exact h1.trans (HBG.out.fr.mono fun k _ hz hk => hz (.inl hk))
end Go.Proofs.Ytdholifacnnjcaa
