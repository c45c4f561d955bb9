/- Appending a row to a row of the call's own: things of any size. -/
import Derived.Test.YthnjmfkiohgkkaaGreatDoorAlive5
import Derived.Deep.AppendSrc
import Derived.BigFrame
namespace Go.Proofs.YthnjmfkiohgkkaaGreatDoor.Sy
open Go.RowKit

theorem grown_row {w : World} {e : TypeId} {z : Value} {k n m old : Nat} {xs news : List Value} (hz : z.cells.size = k) (hx : xs.length = n * k) (hn : news.length = m * k) (hlim : n + m ≤ 1000000) (row : Option Nat) :
    (w.drew.alloc (.cells ((xs ++ news).toArray ++ Builtin.zeroCells z.cells (grownCap w (n + m) old e - (n + m))) e)).ownsRow 0 e k (.slice (some ⟨w.heap.size, 0, none⟩) (n + m) (grownCap w (n + m) old e)) (n + m) (xs ++ news) ∧
      w.grownBy (w.drew.alloc (.cells ((xs ++ news).toArray ++ Builtin.zeroCells z.cells (grownCap w (n + m) old e - (n + m))) e)) row := by
  have hge := grownCap_ge w (n + m) old e
  have hle := grownCap_le_maxLen w (n + m) old e (by unfold maxLen; omega)
  have hlen : (xs ++ news).length = (n + m) * k := by rw [List.length_append, Nat.add_mul]; omega
  constructor
  · refine ⟨hlen, .inr ⟨w.heap.size, _, _, rfl, Nat.zero_le _, heap_alloc_new w.drew _, hge, hle, ?_, ?_⟩⟩
    · rw [Array.size_append, size_zeroCells, hz]
      simp only [List.size_toArray, hlen]
      generalize grownCap w (n + m) old e = c at *
      rw [← Nat.add_mul]
      congr 1
      omega
    · rw [Array.toList_append, ← hlen]
      exact List.take_left
  · exact ⟨rfl, rfl, rfl, by simp, fun k hk _ => Go.heap_alloc_old w.drew _ hk⟩

theorem run_append_src {P : Program} (w : World) (t tx ty e : TypeId) (i : TypeInfo) (z : Value) (k b : Nat) (ht : P.underlying t = some (.slice e)) (hi : P.info? e = some i) (hz : i.zero = some z) (hs1 : i.size = k) (hb1 : i.bytes = b) (hb : b ≤ 200) (hzc : z.cells.size = k)
    (v : Value) (n : Nat) (xs : List Value) (hown : w.ownsRow 0 e k v n xs) (x : Value) (m : Nat) (news : List Value) (hsrc : Src P k tx x m news w) (hlim : n + m ≤ 1000000) :
    ∃ v' w', (Builtin.append_ #[t, tx] ty #[v, x]).run P w = .ok v' w' ∧ w'.ownsRow 0 e k v' (n + m) (xs ++ news) ∧ w.grownBy w' v.ownBlock := by
  have hxl : xs.length = n * k := hown.1
  have hnl : news.length = m * k := hsrc.newsLen
  have hsrc' : Src P i.size tx x m news w := by rw [hs1]; exact hsrc
  have hmb : (n + m) * i.bytes ≤ 140737488355328 := by
    rw [hb1]
    exact Nat.le_trans (Nat.mul_le_mul hlim hb) (by decide)
  have hfit : ∀ old, old < n + m → Builtin.nextslicecap (n + m) old * i.bytes ≤ 281474976710656 := fun old ho => growslice_fits ho hmb
  rcases hown.2 with ⟨rfl, rfl⟩ | ⟨g, cap, cur, rfl, hbg, hg, hnc, hcm, hcs, htake⟩
  · have hx0 : xs = [] := List.eq_nil_of_length_eq_zero (by omega)
    subst hx0
    by_cases hm : m = 0
    · subst hm
      have hn0 : news = [] := List.eq_nil_of_length_eq_zero (by omega)
      subst hn0
      refine ⟨.slice none 0 0, w, ?_, World.ownsRow_nil w 0 e k, ⟨rfl, rfl, rfl, Nat.le_refl _, fun _ _ _ => rfl⟩⟩
      rcases hsrc'.kind with ⟨e', hk⟩ | hk <;> simp [Builtin.append_, run_underlying ht, run_underlying hk, sizeOf, typeInfo, hi, hsrc'.len, hsrc'.cells]
    · have hr := run_append_grow_src (P := P) w t tx ty e i z ht hi hz none 0 0 [] (run_firstCells_none w.drew i.size 0 0 0) x m news hsrc' (by omega) (by omega) (hfit 0 (by omega))
      have hgr := grown_row (w := w) (e := e) (old := 0) hzc hxl hnl (by omega) (Value.ownBlock (.slice none 0 0))
      exact ⟨_, _, hr, hgr.1, hgr.2⟩
  · by_cases hroom : n + m ≤ cap
    · have hrk : n * k + m * k ≤ cap * k := by rw [← Nat.add_mul]; exact Nat.mul_le_mul_right k hroom
      have hst := run_storeCells_at P g (n * i.size) e news 0 cur w hg (by rw [hs1]; omega) hsrc.one
      simp only [Nat.add_zero] at hst
      refine ⟨.slice (some ⟨g, 0, none⟩) (n + m) cap, w.setRow g (cur.toList.take (n * i.size) ++ news ++ cur.toList.drop (n * i.size + news.length)).toArray, ?_, ?_, ?_⟩
      · rcases hsrc'.kind with ⟨e', hk⟩ | hk <;> simp [Builtin.append_, run_underlying ht, run_underlying hk, sizeOf, typeInfo, hi, hsrc'.len, hroom, hsrc'.cells, Addr.add_lit, hst]
      · have hlen : (xs ++ news).length = (n + m) * k := by rw [List.length_append, Nat.add_mul]; omega
        refine ⟨hlen, .inr ⟨g, cap, _, rfl, hbg, setRow_heap w g cur _ e _ hg, hroom, hcm, ?_, ?_⟩⟩
        · simp only [List.size_toArray, List.length_append, List.length_take, List.length_drop, Array.length_toList, hs1, hnl] at hcs ⊢
          omega
        · rw [hs1, htake, ← hlen]
          exact List.take_left
      · exact ⟨rfl, rfl, rfl, by simp [World.setRow], fun k _ hk => setRow_other w g k _ (fun e => hk (by simp [Value.ownBlock, e]))⟩
    · have hold := run_firstCells_some (P := P) w.drew i.size n ⟨g, 0, none⟩ n cap xs (by rw [hs1]; omega) (by simpa using hown.cells (g := g) rfl)
      have hr := run_append_grow_src (P := P) w t tx ty e i z ht hi hz (some ⟨g, 0, none⟩) n cap xs hold x m news hsrc' (by omega) (by omega) (hfit cap (by omega))
      have hgr := grown_row (w := w) (e := e) (old := cap) hzc hxl hnl (by omega) (Value.ownBlock (.slice (some ⟨g, 0, none⟩) n cap))
      exact ⟨_, _, hr, hgr.1, hgr.2⟩

/-- The same, as the walk takes it. -/
theorem wpList_append_src {P : Program} (w : World) {ops : Array Oper} {rest : List Oper} {o : Oper} {a : Act} {Q : Exit → Act → World → Prop} (hgd : Region.wanted o (yielded ops a.tmps) = true) (s x : Operand) (t tx : TypeId)
    (ho : o.op = .call { callee := .builtin .append, args := #[s, x], argTypes := #[t, tx] }) (e : TypeId) (i : TypeInfo) (z : Value) (k b : Nat) (ht : P.underlying t = some (.slice e)) (hi : P.info? e = some i) (hz : i.zero = some z) (hs1 : i.size = k) (hb1 : i.bytes = b) (hb : b ≤ 200) (hzc : z.cells.size = k)
    (v : Value) (n : Nat) (xs : List Value) (hs : a.eval s = v) (hown : w.ownsRow 0 e k v n xs) (y : Value) (m : Nat) (news : List Value) (hx : a.eval x = y) (hsrc : Src P k tx y m news w) (hlim : n + m ≤ 1000000)
    (h : ∀ v' w', w'.ownsRow 0 e k v' (n + m) (xs ++ news) → w.grownBy w' v.ownBlock → wpList P ops Q rest (a.put o.dst v') w') : wpList P ops Q (o :: rest) a w := by
  refine BigFrame.wpList_want hgd fun K hK => ?_
  obtain ⟨v', w', hr, h2, h3⟩ := run_append_src (P := P) w t tx o.type e i z k b ht hi hz hs1 hb1 hb hzc v n xs hown y m news hsrc hlim
  unfold Oper.wp execOp
  simp only [ho, resolve, invoke, builtin, Sem.run_bind, Sem.run_pure, Result.andThen_ok, List.map_toArray, List.map_cons, List.map_nil, hs, hx, hr]
  exact hK _ _ (h v' w' h2 h3)

theorem src_own {P : Program} {w : World} {e k n : Nat} {v : Value} {xs : List Value} (h : w.ownsRow 0 e k v n xs) {tx e' : TypeId} (hk : P.underlying tx = some (.slice e')) (h1 : ∀ u ∈ xs, u.oneCell' = true) : Src P k tx v n xs w := by
  rcases h.2 with ⟨rfl, rfl⟩ | ⟨g, cap, cur, rfl, _, _, _⟩
  · have : xs = [] := List.eq_nil_of_length_eq_zero (by have := h.1; omega)
    subst this
    exact Src.ofNil w hk 0
  · exact Src.ofSlice w hk ⟨g, 0, none⟩ n cap xs h.1 (h.cells (g := g) rfl) h1

/-- What a list's cells are. -/
theorem rows_cells {α : Type} {k n : Nat} {l : List α} {xs : List Value} {Q : List Value → Prop} (hk0 : 0 < k) (hx : xs.length = n * k) (hl : l.length = n) (h : ∀ i a, l[i]? = some a → Q ((xs.drop (i * k)).take k)) (ho : ∀ z, Q z → ∀ u ∈ z, u.oneCell' = true) : ∀ u ∈ xs, u.oneCell' = true := by
  intro u hu
  obtain ⟨j, hj, e⟩ := List.mem_iff_getElem.1 hu
  have hi : j / k < n := Nat.div_lt_of_lt_mul (by rw [Nat.mul_comm]; omega)
  obtain ⟨a, ha⟩ : ∃ a, l[j / k]? = some a := ⟨l[j / k], by simp [hl, hi]⟩
  refine ho _ (h _ _ ha) u ?_
  have hdm : j / k * k + j % k = j := by rw [Nat.mul_comm]; exact Nat.div_add_mod j k
  have hm : j % k < k := Nat.mod_lt _ hk0
  refine List.mem_iff_getElem?.2 ⟨j % k, ?_⟩
  rw [List.getElem?_take, if_pos hm, List.getElem?_drop, hdm, ← e]
  simp

/-- Both lists. -/
theorem rows_join {α : Type} {e k : Nat} {C : World → α → List Value → Prop} {c1 c2 : α → List Value → Prop} {w' : World} {l1 l2 : List α} {v' : Value} {xs ys : List Value} (hx : xs.length = l1.length * k)
    (h1 : ∀ i a, l1[i]? = some a → c1 a ((xs.drop (i * k)).take k)) (h2 : ∀ i a, l2[i]? = some a → c2 a ((ys.drop (i * k)).take k))
    (hc1 : ∀ a z, c1 a z → C w' a z) (hc2 : ∀ a z, c2 a z → C w' a z) (hown : w'.ownsRow 0 e k v' (l1.length + l2.length) (xs ++ ys)) :
    Rows (fun _ => True) e k C w' (l1 ++ l2) v' := by
  refine ⟨xs ++ ys, ⟨by rw [List.length_append]; exact hown, fun _ _ => trivial⟩, fun i a hi => ?_⟩
  by_cases hlt : i < l1.length
  · rw [List.getElem?_append_left hlt] at hi
    have hik : i * k + k ≤ xs.length := by rw [hx, ← Nat.succ_mul]; exact Nat.mul_le_mul_right k hlt
    rw [List.drop_append_of_le_length (by omega), List.take_append_of_le_length (by rw [List.length_drop]; omega)]
    exact hc1 _ _ (h1 i a hi)
  · rw [List.getElem?_append_right (by omega)] at hi
    have e : i * k = xs.length + (i - l1.length) * k := by rw [hx, ← Nat.add_mul]; congr 1; omega
    rw [e, ← List.drop_drop, List.drop_left]
    exact hc2 _ _ (h2 _ a hi)

/-- A statute in memory, its blocks in Z. -/
structure SZ (Z : Nat → Prop) (w : World) (st : St9) (S : StatM) : Prop where
  title : st.title = .string ⟨S.title.toArray⟩
  kinds : Strs Z w S.kinds st.kinds
  members : Rows Z 78 2 cM w S.members st.members
  preds : Rows Z 92 4 (cPred Z) w S.preds st.preds
  classes : Rows Z 22 1 (cClass Z) w S.classes st.classes
  sources : Rows Z 126 2 cSrc w S.sources st.sources
  rules : Rows Z 100 11 (cRule Z) w S.rules st.rules
  excepts : Rows Z 128 2 cM w S.excepts st.excepts
  totals : Rows Z 111 5 (cTotal Z) w S.totals st.totals

theorem SZ.keep {Z : Nat → Prop} {w w' : World} {st : St9} {S : StatM} (h : SZ Z w st S) (hk : Kp allT Z w w') : SZ Z w' st S := by
  have hi : Kp inner Z w w' := inner_all hk (by decide)
  exact ⟨h.title, Rows.keep h.kinds hk (by decide) fun _ _ h => h, Rows.keep h.members hk (by decide) fun _ _ h => h, Rows.keep h.preds hk (by decide) fun _ _ h => h.keep hi, Rows.keep h.classes hk (by decide) fun _ _ h => h.keep hi,
    Rows.keep h.sources hk (by decide) fun _ _ h => h, Rows.keep h.rules hk (by decide) fun _ _ h => h.keep hi, Rows.keep h.excepts hk (by decide) fun _ _ h => h, Rows.keep h.totals hk (by decide) fun _ _ h => h.keep hi⟩

theorem SRep.sz {R : Nat} {w : World} {st : St9} {S : StatM} (h : SRep R w st S) : SZ (· < w.heap.size) w st S :=
  ⟨h.title, Rows.within h.kinds (fun _ hg _ => hg) fun _ _ h => h, Rows.within h.members (fun _ hg _ => hg) fun _ _ h => h, Rows.within h.preds (fun _ hg _ => hg) fun _ _ h => h.within fun _ hg _ => hg, Rows.within h.classes (fun _ hg _ => hg) fun _ _ h => h.within fun _ hg _ => hg,
    Rows.within h.sources (fun _ hg _ => hg) fun _ _ h => h, Rows.within h.rules (fun _ hg _ => hg) fun _ _ h => h.within fun _ hg _ => hg, Rows.within h.excepts (fun _ hg _ => hg) fun _ _ h => h, Rows.within h.totals (fun _ hg _ => hg) fun _ _ h => h.within fun _ hg _ => hg⟩

/-- What growing a row leaves: all blocks but that row's. -/
theorem Kp.of_grown2 {T : List Nat} {Z : Nat → Prop} {w w' : World} {row : Option Nat} (h : w.grownBy w' row) (hz : ∀ g, Z g → some g ≠ row) : Kp T Z w w' :=
  fun g _ _ hZ hg _ => (h.block g (loc_lt hg) (hz g hZ)).trans hg
end Go.Proofs.YthnjmfkiohgkkaaGreatDoor.Sy
