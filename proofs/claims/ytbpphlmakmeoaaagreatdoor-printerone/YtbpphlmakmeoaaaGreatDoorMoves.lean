import Derived.Test.YtbpphlmakmeoaaaGreatDoorGrammar
namespace Go.Proofs.YtbpphlmakmeoaaaGreatDoor.Sy
def RS.sh (d : Nat) (s : RS) : RS := { s with n := s.n + d }
structure L3 (K K' : fQ) (d B : Nat) : Prop where
 len : K.length ≤ K'.length
 at' : ∀ i, i < B → K[i]? = K'[i + d]?
structure Good {α : Type} (f : fQ → M α) : Prop where
 le : ∀ K s a t, f K s = .ok a t → s.n ≤ t.n
 mv : ∀ K K' d B, L3 K K' d B → ∀ s a t, f K s = .ok a t → t.n < B → f K' (s.sh d) = .ok a (t.sh d)
def Eats {α : Type} (f : fQ → M α) : Prop := ∀ K s a t, f K s = .ok a t → s.n < t.n
theorem eQ {α β : Type} {x : M α} {f : α → M β} {s : RS} {b : β} {t : RS} : (x >>= f) s = .ok b t ↔ ∃ a u, x s = .ok a u ∧ f a u = .ok b t := by
 show (match x s with | .ok a t => f a t | .bad e n => .bad e n) = _ ↔ _
 cases h : x s with
 | ok a u => exact ⟨fun h => ⟨a, u, rfl, h⟩, fun ⟨a', u', h1, h2⟩ => by cases h1; exact h2⟩
 | bad e n => simp
theorem hY {α β : Type} {x : M α} {f : α → M β} {s u : RS} {a : α} (h : x s = .ok a u) : (x >>= f) s = f a u := by
 show (match x s with | .ok a t => f a t | .bad e n => .bad e n) = _
 rw [h]
theorem th {α β : Type} {x : M α} {f : α → M β} {s : RS} {e : Int} {n : Nat} (h : x s = .bad e n) : (x >>= f) s = .bad e n := by
 show (match x s with | .ok a t => f a t | .bad e n => .bad e n) = _
 rw [h]
theorem oq {α : Type} (a : α) (s : RS) : (pure a : M α) s = .ok a s := rfl
theorem jt {α : Type} (q : RS → α) (s : RS) : gB q s = .ok (q s) s := rfl
theorem nO (q : RS → RS) (s : RS) : mV q s = .ok () (q s) := rfl
theorem Good.pure {α : Type} (a : α) : Good (fun _ => (Pure.pure a : M α)) where
 le := by intro K s a t h; rw [oq] at h; cases h; exact Nat.le_refl _
 mv := by intro K K' d B _ s a t h _; rw [oq] at h; cases h; rfl
theorem Good.fail {α : Type} (e : Int) : Good (fun _ => (failM e : M α)) where
 le := by intro K s a t h; cases h
 mv := by intro K K' d B _ s a t h _; cases h
theorem Good.bind {α β : Type} {f : fQ → M α} {g : α → fQ → M β} (hf : Good f) (hg : ∀ a, Good (g a)) : Good (fun K => f K >>= fun a => g a K) where
 le := by
  intro K s b t h
  obtain ⟨a, u, h1, h2⟩ := eQ.1 h
  exact Nat.le_trans (hf.le _ _ _ _ h1) ((hg a).le _ _ _ _ h2)
 mv := by
  intro K K' d B hA s b t h hB
  obtain ⟨a, u, h1, h2⟩ := eQ.1 h
  have hl := (hg a).le _ _ _ _ h2
  rw [hY (hf.mv K K' d B hA s a u h1 (by omega))]
  exact (hg a).mv K K' d B hA u b t h2 hB
theorem Good.ite {α : Type} {f g : fQ → M α} (c : Bool) (hf : Good f) (hg : Good g) : Good (fun K => if c = true then f K else g K) := by
 cases c
 · simpa using hg
 · simpa using hf
theorem Good.set (q : RS → RS) (h : ∀ s, (q s).n = s.n) (hs : ∀ d s, q (s.sh d) = (q s).sh d) : Good (fun _ => mV q) where
 le := by intro K s a t e; rw [nO] at e; cases e; rw [h]; exact Nat.le_refl _
 mv := by intro K K' d B _ s a t e _; rw [nO] at e; cases e; rw [nO, hs]
theorem Good.ask {α : Type} (q : fQ → RS → α) (hq : ∀ K K' s d, K[s.n]? = K'[s.n + d]? → q K' (s.sh d) = q K s) : Good (fun K => gB (q K)) where
 le := by intro K s a t e; rw [jt] at e; cases e; exact Nat.le_refl _
 mv := by
  intro K K' d B hA s a t e hB
  rw [jt] at e
  cases e
  rw [jt, hq K K' s d (hA.at' s.n hB)]
theorem Good.take : Good gZ where
 le := by
  intro K s a t h
  unfold gZ at h
  split at h
  · cases h
  · cases h; exact Nat.le_succ _
 mv := by
  intro K K' d B hA s a t h hB
  unfold gZ at h ⊢
  split at h
  · cases h
  · next hf =>
    cases h
    have Aa := hA.at' s.n (by simp at hB; omega)
    rw [if_neg (show ¬ (s.sh d).full = true from hf)]
    unfold RS.sh tx
    simp only [Nat.add_right_comm]
    rw [← Aa]
theorem kO : Eats gZ := by
 intro K s a t h
 unfold gZ at h
 split at h
 · cases h
 · cases h; exact Nat.lt_succ_self _
theorem Good.ask2 {α : Type} {g : Bool → fQ → M α} (q : fQ → RS → Bool) (hq : ∀ K K' s d, K[s.n]? = K'[s.n + d]? → K[s.n + 1]? = K'[s.n + 1 + d]? → q K' (s.sh d) = q K s)
    (hg : ∀ b, Good (g b)) (he : ∀ b, Eats (g b)) : Good (fun K => gB (q K) >>= fun b => g b K) where
 le := by
  intro K s a t h
  rw [hY (jt _ s)] at h
  exact (hg _).le _ _ _ _ h
 mv := by
  intro K K' d B hA s a t h hB
  rw [hY (jt _ s)] at h
  have hl := he _ _ _ _ _ h
  rw [hY (jt _ _), hq K K' s d (hA.at' _ (by omega)) (hA.at' _ (by omega))]
  exact (hg _).mv K K' d B hA s a t h hB
theorem Eats.bind {α β : Type} {f : fQ → M α} {g : α → fQ → M β} (hf : Eats f) (hg : ∀ a, Good (g a)) : Eats (fun K => f K >>= fun a => g a K) := by
 intro K s b t h
 obtain ⟨a, u, h1, h2⟩ := eQ.1 h
 exact Nat.lt_of_lt_of_le (hf _ _ _ _ h1) ((hg a).le _ _ _ _ h2)
theorem Eats.bind' {α β : Type} {f : fQ → M α} {g : α → fQ → M β} (hf : Good f) (hg : ∀ a, Eats (g a)) : Eats (fun K => f K >>= fun a => g a K) := by
 intro K s b t h
 obtain ⟨a, u, h1, h2⟩ := eQ.1 h
 exact Nat.lt_of_le_of_lt (hf.le _ _ _ _ h1) (hg a _ _ _ _ h2)
theorem Eats.ask {α β : Type} {q : fQ → RS → α} {g : α → fQ → M β} (hg : ∀ a, Eats (g a)) : Eats (fun K => gB (q K) >>= fun a => g a K) := by
 intro K s b t h
 have h : (gB (q K) >>= fun a => g a K) s = .ok b t := h
 rw [hY (jt _ s)] at h
 exact hg _ _ _ _ _ h
theorem Eats.ite {α : Type} {f g : fQ → M α} (c : Bool) (hf : Eats f) (hg : Eats g) : Eats (fun K => if c = true then f K else g K) := by
 cases c
 · simpa using hg
 · simpa using hf
theorem Eats.fail {α : Type} (e : Int) : Eats (fun _ => (failM e : M α)) := by intro K s a t h; cases h
theorem J6 (d : Nat) (s : RS) : (s.sh d).n = s.n + d := rfl
theorem ju {K K' : fQ} {s : RS} {d : Nat} (h : K[s.n]? = K'[s.n + d]?) : kd K' (s.sh d).n = kd K s.n ∧ tx K' (s.sh d).n = tx K s.n := by
 unfold kd tx
 rw [J6, ← h]
 exact ⟨rfl, rfl⟩
theorem nd {K K' : fQ} {s : RS} {d : Nat} (h : K[s.n]? = K'[s.n + d]?) (t : ee) : eT K' (s.sh d).n t = eT K s.n t := by
 unfold eT
 rw [(ju h).1, (ju h).2]
theorem uG {K K' : fQ} {s : RS} {d : Nat} (h : K[s.n + 1]? = K'[s.n + 1 + d]?) (t : ee) : eT K' ((s.sh d).n + 1) t = eT K (s.n + 1) t := by
 unfold eT kd tx
 rw [J6, Nat.add_right_comm, ← h]
theorem I5 {K K' : fQ} {s : RS} {d : Nat} (h : K[s.n]? = K'[s.n + d]?) (t : ee) : nn K' (s.sh d).n t = nn K s.n t := by
 unfold nn
 rw [(ju h).1, (ju h).2]
theorem gj (t : ee) : Good (fun K => iu K t) :=
 .bind (.ask _ fun _ _ _ _ h => nd h t) fun b => .ite b (.bind .take fun _ => .pure _) (.pure _)
theorem eR (t : ee) : Good (fun K => hH K t) :=
 .bind (.ask _ fun _ _ _ _ h => I5 h t) fun b => .ite b (.bind .take fun _ => .pure _) (.pure _)
theorem ff (t : ee) : Good (fun K => gp K t) := .bind (gj t) fun b => .ite b (.pure _) (.fail _)
theorem hO (t : ee) : Good (fun K => kq K t) := .bind (eR t) fun b => .ite b (.pure _) (.fail _)
theorem good_comma : Good iz := gj _
theorem gC {K : fQ} {t : ee} {s u : RS} (h : iu K t s = .ok true u) : s.n < u.n := by
 unfold iu at h
 rw [hY (jt _ s)] at h
 split at h
 · obtain ⟨x, v, h1, h2⟩ := eQ.1 h
   rw [oq] at h2
   cases h2
   exact kO _ _ _ _ h1
 · cases h
theorem kZ (t : ee) : Eats (fun K => gp K t) := by
 intro K s a u h
 obtain ⟨b, v, h1, h2⟩ := eQ.1 h
 cases b
 · cases h2
 · cases h2; exact gC h1
theorem fW {α : Type} (k : Nat) (most : Int) {read : fQ → M α} (hr : Good read) : Good (fun K => gO k most (read K)) :=
 .bind (.set _ (fun _ => rfl) fun _ _ => rfl) fun _ => hr
theorem yR {α : Type} (k : Nat) (most : Int) {read : fQ → M α} (hr : Eats read) : Eats (fun K => gO k most (read K)) :=
 .bind' (.set _ (fun _ => rfl) fun _ _ => rfl) fun _ => hr
theorem kQ {α : Type} (most : Int) {read : fQ → M α} {more : fQ → M Bool} (hr : Good read) (hm : Good more) : ∀ (f : Nat) (acc : List α), Good (fun K => iN most (read K) (more K) f acc)
 | 0, _ => ⟨(by intro K s a t h; cases h), (by intro K K' d B _ s a t h; cases h)⟩
 | f + 1, acc => .bind hm fun b => .ite b (.bind (fW _ _ hr) fun x => kQ most hr hm f (acc ++ [x])) (.pure _)
theorem rQ {α : Type} {most : Int} {read : M α} {more : M Bool} : ∀ (f g : Nat) (acc : List α) (s t : RS) (l : List α), f ≤ g → iN most read more f acc s = .ok l t → iN most read more g acc s = .ok l t
 | 0, _, _, _, _, _, _, h => by cases h
 | f + 1, 0, _, _, _, _, hfg, _ => by omega
 | f + 1, g + 1, acc, s, t, l, hfg, h => by
  unfold iN at h ⊢
  obtain ⟨b, u, h1, h2⟩ := eQ.1 h
  rw [hY h1]
  cases b
  · exact h2
  · simp only [if_true] at h2 ⊢
    obtain ⟨x, v, h3, h4⟩ := eQ.1 h2
    rw [hY h3]
    exact rQ f g _ _ _ _ (by omega) h4
theorem iX {α : Type} (most : Int) {read : fQ → M α} {more : fQ → M Bool} (hr : Good read) (hm : Good more) : Good (fun K => iP K most (read K) (more K)) where
 le := by
  intro K s a t h
  obtain ⟨x, u, h1, h2⟩ := eQ.1 h
  exact Nat.le_trans ((fW _ _ hr).le _ _ _ _ h1) ((kQ most hr hm _ _).le _ _ _ _ h2)
 mv := by
  intro K K' d B hA s a t h hB
  obtain ⟨x, u, h1, h2⟩ := eQ.1 h
  have hl := (kQ most hr hm _ _).le _ _ _ _ h2
  show (gO 0 most (read K') >>= fun x => iN most (read K') (more K') (K'.length + 1) [x]) (s.sh d) = _
  rw [hY ((fW 0 most hr).mv K K' d B hA s x u h1 (by omega))]
  exact rQ _ _ _ _ _ _ (by have := hA.len; omega) ((kQ most hr hm (K.length + 1) [x]).mv K K' d B hA u a t h2 hB)
theorem xu {α : Type} (most : Int) {read : fQ → M α} {more : fQ → M Bool} (hr : Eats read) (hr' : Good read) (hm : Good more) : Eats (fun K => iP K most (read K) (more K)) := by
 intro K s a t h
 obtain ⟨x, u, h1, h2⟩ := eQ.1 h
 exact Nat.lt_of_lt_of_le (yR _ _ hr _ _ _ _ h1) ((kQ most hr' hm _ _).le _ _ _ _ h2)
theorem good_name : Good gw :=
 .bind (.ask _ fun _ _ _ _ h => by rw [(ju h).1, (ju h).2]) fun b => .ite b .take (.fail _)
theorem go : Eats gw := .ask fun b => .ite b kO (.fail _)
theorem jc : Good la :=
 .bind (.ask _ fun _ _ _ _ h => by rw [(ju h).1]) fun b => .ite b .take good_name
theorem tA : Eats la := .ask fun b => .ite b kO go
section
variable (F : j5)
theorem m8 : Good (sz F) :=
 .bind (.ask _ fun _ _ _ _ h => by rw [(ju h).1, (ju h).2]) fun b => .ite b (.bind (.ask _ fun _ _ _ _ h => by rw [(ju h).2]) fun _ => .bind .take fun _ => .pure _) (.fail _)
theorem oA (a b : Int) : Good (fun K => m9 F K a b) :=
 .bind (.ask _ fun _ _ _ _ h => by rw [(ju h).1, (ju h).2]) fun b => .ite b
  (.bind (.ask _ fun _ _ _ _ h => by rw [(ju h).2]) fun b => .ite b (.bind (.ask _ fun _ _ _ _ h => by rw [(ju h).2]) fun _ => .bind .take fun _ => .pure _) (.fail _)) (.fail _)
theorem sX (a b : Int) : Eats (fun K => m9 F K a b) :=
 .ask fun b => .ite b (.ask fun b => .ite b (.ask fun _ => .bind kO fun _ => .pure _) (.fail _)) (.fail _)
theorem oc (sign : ee) : Good (fun K => km F K sign) :=
 .bind (.ask _ fun _ _ _ _ h => by rw [(ju h).1]) fun b => .ite b
  (.bind (.ask _ fun _ _ _ _ h => by rw [(ju h).2]) fun _ => .ite _ (.bind .take fun _ => .pure _) (.fail _)) (.fail _)
theorem ob (sign : ee) : Eats (fun K => km F K sign) :=
 .ask fun b => .ite b (.ask fun _ => .ite _ (.bind kO fun _ => .pure _) (.fail _)) (.fail _)
theorem iZ : Good (jy F) := .bind (gj _) fun b => .ite b (oc F _) (oc F _)
theorem ll : Eats (jy F) := .bind' (gj _) fun b => .ite b (ob F _) (ob F _)
theorem gS {read : fQ → M ee} (hr : Good read) : Good (fun K => iW K (read K)) :=
 .bind (gj _) fun b => .ite b (.bind (iX 4 hr good_comma) fun _ => .bind (ff _) fun _ => .pure _) (.pure _)
theorem lH : Good (jB F) :=
 .bind (gj _) fun _ => .bind good_name fun _ => .bind (gS jc) fun _ => .bind (gj _) fun b => .ite b (.bind (iZ F) fun _ => .pure _) (.pure _)
theorem nk : Eats (jB F) :=
 .bind' (gj _) fun _ => .bind go fun _ => .bind (gS jc) fun _ => .bind (gj _) fun b => .ite b (.bind (iZ F) fun _ => .pure _) (.pure _)
theorem pU : Good (jp F) :=
 .bind (.ask _ fun _ _ _ _ h => by rw [(ju h).1]) fun b => .ite b
  (.ask2 _ (fun _ _ _ _ _ h => uG h _)
   (fun b => .ite b (.bind (oA F _ _) fun _ => .bind (ff _) fun _ => .bind good_name fun _ => .bind (gS jc) fun _ => .pure _) (.bind (iZ F) fun _ => .pure _))
   (fun b => .ite b (.bind (sX F _ _) fun _ => .bind (ff _) fun _ => .bind good_name fun _ => .bind (gS jc) fun _ => .pure _) (.bind (ll F) fun _ => .pure _)))
  (.bind (.ask _ fun _ _ _ _ h => nd h _) fun b => .ite b (.bind (iZ F) fun _ => .pure _) (.bind good_name fun _ => .bind (gS jc) fun _ => .pure _))
theorem rn : Eats (jp F) :=
 .ask fun b => .ite b
  (.ask fun b => .ite b (.bind (sX F _ _) fun _ => .bind (ff _) fun _ => .bind good_name fun _ => .bind (gS jc) fun _ => .pure _) (.bind (ll F) fun _ => .pure _))
  (.ask fun b => .ite b (.bind (ll F) fun _ => .pure _) (.bind go fun _ => .bind (gS jc) fun _ => .pure _))
theorem xh : Good (lW F) :=
 .bind (pU F) fun _ => .bind (.ask _ fun _ _ _ _ _ => rfl) fun b => .ite b (.pure _) (.pure _)
theorem wO : Eats (lW F) :=
 .bind (rn F) fun _ => .bind (.ask _ fun _ _ _ _ _ => rfl) fun b => .ite b (.pure _) (.pure _)
theorem xK : Good oZ :=
 .bind (gj _) fun m => .bind (.set _ (fun _ => rfl) fun _ _ => rfl) fun _ => .ite m (.pure _) (gj _)
theorem lL : Good (nT F) :=
 .bind (.set _ (fun _ => rfl) fun _ _ => rfl) fun _ => iX 8 (xh F) xK
theorem L7 {K K' : fQ} {s : RS} {d : Nat} (h : K[s.n]? = K'[s.n + d]?) : opAt K' (s.sh d).n = opAt K s.n := by
 unfold opAt
 simp only [nd h]
theorem uy {K K' : fQ} {s : RS} {d : Nat} (h : K[s.n]? = K'[s.n + d]?) : arrowAt K' (s.sh d).n = arrowAt K s.n := by
 unfold arrowAt
 simp only [nd h]
theorem uw : Good xI :=
 .bind (.ask _ fun _ _ _ _ h => L7 h) fun _ => .ite _ (.fail _) (.bind .take fun _ => .pure _)
theorem pw : Good nE :=
 .bind (.ask _ fun _ _ _ _ h => uy h) fun _ => .ite _ (.fail _) (.bind .take fun _ => .pure _)
theorem vj : Good (lz F) :=
 .bind (ff _) fun _ => .bind (lL F) fun _ => .bind uw fun _ => .bind (lL F) fun _ => .bind (ff _) fun _ => .pure _
theorem oV : Eats (lz F) :=
 .bind (kZ _) fun _ => .bind (lL F) fun _ => .bind uw fun _ => .bind (lL F) fun _ => .bind (ff _) fun _ => .pure _
theorem uo : Good mt :=
 .bind jc fun _ => .bind (ff _) fun _ => .bind jc fun _ => .pure _
theorem nX : Eats mt :=
 .bind tA fun _ => .bind (ff _) fun _ => .bind jc fun _ => .pure _
theorem tg : Good (jo F) :=
 .ask2 _ (fun _ _ _ _ h h2 => by rw [(ju h).1, uG h2])
  (fun b => .ite b uo (.bind (.ask _ fun _ _ _ _ h => nd h _) fun b => .ite b (.bind (vj F) fun _ => .pure _) (.bind (lH F) fun _ => .pure _)))
  (fun b => .ite b nX (.ask fun b => .ite b (.bind (oV F) fun _ => .pure _) (.bind (nk F) fun _ => .pure _)))
theorem rV : Good (sy F) :=
 .bind (.ask _ fun _ _ _ _ h => by rw [uy h]) fun b => .ite b (iX 16 (tg F) good_comma) (.pure _)
theorem oO : Good (wm F) := .bind (eR _) fun b => .ite b (m8 F) (.pure _)
theorem rW : Good (lX F) :=
 .bind good_name fun _ => .bind (hO _) fun _ => .bind good_name fun _ => .bind (hO _) fun _ => .bind (m8 F) fun _ => .bind (oO F) fun _ =>
  .bind (ff _) fun _ => .bind (rV F) fun _ => .bind pw fun _ => .bind (lH F) fun _ => .pure _
theorem ny (most : Int) : Good (fun K => kl K most) :=
 .bind (iX most good_name good_comma) fun _ => .bind (ff _) fun _ => .bind good_name fun _ => .pure _
theorem kP (sort : Nat) : Good (fun K => jJ K sort) := .bind good_name fun _ => .bind (gS good_name) fun _ => .pure _
theorem lK : Good (iE F) :=
 .bind (kP 3) fun _ => .bind (ff _) fun _ => .bind (iX 64 (iZ F) good_comma) fun _ => .pure _
theorem oY : Good kS := .bind (iX 16 good_name good_comma) fun _ => .ite _ (.fail _) (.pure _)
theorem nZ : Good (ky F) := .bind good_name fun _ => .bind (hO _) fun _ => .bind (oA F _ _) fun _ => .pure _
theorem mA : Good jm := .bind good_name fun _ => .bind (hO _) fun _ => .bind good_name fun _ => .pure _
theorem oQ : Good (kW F) :=
 .bind good_name fun _ => .bind (ff _) fun _ => .bind good_name fun _ => .bind (ff _) fun _ => .bind (ff _) fun _ =>
  .bind (iX 16 good_name good_comma) fun _ => .bind (eR _) fun b => .ite b (.bind (iZ F) fun _ => .pure _) (.pure _)
end
end Go.Proofs.YtbpphlmakmeoaaaGreatDoor.Sy
