import Derived.Test.YtbpphlmakmeoaaaGreatDoorMoves
namespace Go.Proofs.YtbpphlmakmeoaaaGreatDoor.Sy
def Kf {α : Type} (f : M α) : Prop := ∀ s a t, f s = .ok a t → t.full = s.full
def Ef {α : Type} (f : M α) : Prop := ∀ s a t, f s = .ok a t → s.full = false
theorem Kf.pure {α : Type} (a : α) : Kf (Pure.pure a : M α) := by intro s a t h; cases h; rfl
theorem Kf.fail {α : Type} (e : Int) : Kf (failM e : M α) := by intro s a t h; cases h
theorem Kf.ask {α : Type} (q : RS → α) : Kf (gB q) := by intro s a t h; cases h; rfl
theorem Kf.set (q : RS → RS) (h : ∀ s, (q s).full = s.full) : Kf (mV q) := by intro s a t e; cases e; exact h s
theorem Kf.bind {α β : Type} {x : M α} {f : α → M β} (hx : Kf x) (hf : ∀ a, Kf (f a)) : Kf (x >>= f) := by
 intro s b t h
 obtain ⟨a, u, h1, h2⟩ := eQ.1 h
 exact (hf a _ _ _ h2).trans (hx _ _ _ h1)
theorem Kf.ite {α : Type} {x y : M α} (c : Bool) (hx : Kf x) (hy : Kf y) : Kf (if c = true then x else y) := by
 cases c
 · simpa using hy
 · simpa using hx
theorem Ef.bind {α β : Type} {x : M α} {f : α → M β} (hx : Ef x) : Ef (x >>= f) := by
 intro s b t h
 obtain ⟨a, u, h1, _⟩ := eQ.1 h
 exact hx _ _ _ h1
theorem Ef.bind' {α β : Type} {x : M α} {f : α → M β} (hx : Kf x) (hf : ∀ a, Ef (f a)) : Ef (x >>= f) := by
 intro s b t h
 obtain ⟨a, u, h1, h2⟩ := eQ.1 h
 rw [← hx _ _ _ h1]
 exact hf a _ _ _ h2
theorem Ef.ite {α : Type} {x y : M α} (c : Bool) (hx : Ef x) (hy : Ef y) : Ef (if c = true then x else y) := by
 cases c
 · simpa using hy
 · simpa using hx
theorem Ef.fail {α : Type} (e : Int) : Ef (failM e : M α) := by intro s a t h; cases h
def Ign {α : Type} (f : M α) : Prop := ∀ s a t m, f s = .ok a t → ∃ m', f { s with minus := m } = .ok a { t with minus := m' }
theorem Ign.pure {α : Type} (a : α) : Ign (Pure.pure a : M α) := by intro s a t m h; cases h; exact ⟨m, rfl⟩
theorem Ign.fail {α : Type} (e : Int) : Ign (failM e : M α) := by intro s a t m h; cases h
theorem Ign.ask {α : Type} (q : RS → α) (hq : ∀ s m, q { s with minus := m } = q s) : Ign (gB q) := by
 intro s a t m h
 cases h
 exact ⟨m, by rw [jt, hq]⟩
theorem Ign.bind {α β : Type} {x : M α} {f : α → M β} (hx : Ign x) (hf : ∀ a, Ign (f a)) : Ign (x >>= f) := by
 intro s b t m h
 obtain ⟨a, u, h1, h2⟩ := eQ.1 h
 obtain ⟨m1, e1⟩ := hx _ _ _ m h1
 obtain ⟨m2, e2⟩ := hf a _ _ _ m1 h2
 exact ⟨m2, by rw [hY e1, e2]⟩
theorem Ign.ite {α : Type} {x y : M α} (c : Bool) (hx : Ign x) (hy : Ign y) : Ign (if c = true then x else y) := by
 cases c
 · simpa using hy
 · simpa using hx
theorem Ign.full (b : RS → Bool) (hb : ∀ s m, b { s with minus := m } = b s) : Ign (mV fun s => { s with full := b s }) := by
 intro s a t m h
 cases h
 exact ⟨m, by rw [nO]; simp only [hb]⟩
section
variable (F : j5) (K : fQ)
theorem zO : Kf (gZ K) := by
 intro s a t h
 unfold gZ at h
 split at h
 · cases h
 · cases h; rfl
theorem mn : Ef (gZ K) := by
 intro s a t h
 unfold gZ at h
 split at h
 · cases h
 · next hf => simpa using hf
theorem pA (t : ee) : Kf (iu K t) := .bind (.ask _) fun b => .ite b (.bind (zO K) fun _ => .pure _) (.pure _)
theorem iy {α : Type} {k : Nat} {most : Int} {read : M α} (hr : Ef read) {s t : RS} {a : α} (h : gO k most read s = .ok a t) : s.full = false ∧ (k : Int) < most := by
 have h1 : read { s with full := s.full || decide (most ≤ (k : Int)) } = .ok a t := h
 have h2 := hr _ _ _ h1
 simp only [Bool.or_eq_false_iff, decide_eq_false_iff_not] at h2
 exact ⟨h2.1, by omega⟩
theorem E3 {α : Type} (k : Nat) (most : Int) {read : M α} (hr : Ef read) : Ef (gO k most read) := fun _ _ _ h => (iy hr h).1
theorem zI {α : Type} (most : Int) {read : M α} {more : M Bool} (hr : Ef read) : Ef (iP K most read more) := .bind (E3 _ _ hr)
theorem gJ : Ef (gw K) := .bind' (.ask _) fun b => .ite b (mn K) (.fail _)
theorem lI : Ef (la K) := .bind' (.ask _) fun b => .ite b (mn K) (gJ K)
theorem D9 (a b : Int) : Ef (m9 F K a b) := .bind' (.ask _) fun b => .ite b (.bind' (.ask _) fun b => .ite b (.bind' (.ask _) fun _ => .bind (mn K)) (.fail _)) (.fail _)
theorem rI (sg : ee) : Ef (km F K sg) := .bind' (.ask _) fun b => .ite b (.bind' (.ask _) fun _ => .ite _ (.bind (mn K)) (.fail _)) (.fail _)
theorem mR : Ef (jy F K) := .bind' (pA K _) fun b => .ite b (rI F K _) (rI F K _)
theorem vA : Ef (jB F K) := .bind' (pA K _) fun _ => .bind (gJ K)
theorem sM : Ef (jp F K) := .bind' (.ask _) fun b => .ite b (.bind' (.ask _) fun b => .ite b (.bind (D9 F K _ _)) (.bind (mR F K))) (.bind' (.ask _) fun b => .ite b (.bind (mR F K)) (.bind (gJ K)))
theorem uE : Ef (lW F K) := .bind (sM F K)
theorem un (t : ee) : Ef (gp K t) := by
 intro s a u h
 obtain ⟨b, v, h1, h2⟩ := eQ.1 h
 cases b
 · cases h2
 · unfold iu at h1
   rw [hY (jt _ s)] at h1
   split at h1
   · obtain ⟨x, y, h3, _⟩ := eQ.1 h1
     exact mn K _ _ _ h3
   · cases h1
theorem yf : Ef (lz F K) := .bind (un K _)
theorem wa : Ef (mt K) := .bind (lI K)
theorem pB : Ef (jo F K) := .bind' (.ask _) fun b => .ite b (wa K) (.bind' (.ask _) fun b => .ite b (.bind (yf F K)) (.bind (vA F K)))
theorem B3 : Ef (lX F K) := .bind (gJ K)
end
end Go.Proofs.YtbpphlmakmeoaaaGreatDoor.Sy
namespace Go.Proofs.YtbpphlmakmeoaaaGreatDoor.Sy
def N8 (P S : StatM) : StatM :=
 ⟨P.title, P.kinds ++ S.kinds, P.members ++ S.members, P.preds ++ S.preds, P.classes ++ S.classes, P.sources ++ S.sources, P.rules ++ S.rules, P.excepts ++ S.excepts, P.totals ++ S.totals⟩
structure M7 (S : StatM) : Prop where
 kinds : S.kinds.length ≤ 16
 members : S.members.length ≤ 64
 preds : S.preds.length ≤ 256
 classes : S.classes.length ≤ 64
 sources : S.sources.length ≤ 64
 rules : S.rules.length ≤ 512
 excepts : S.excepts.length ≤ 512
 totals : S.totals.length ≤ 64
structure Less (S T : StatM) : Prop where
 title : T.title = S.title
 kinds : S.kinds.length ≤ T.kinds.length
 members : S.members.length ≤ T.members.length
 preds : S.preds.length ≤ T.preds.length
 classes : S.classes.length ≤ T.classes.length
 sources : S.sources.length ≤ T.sources.length
 rules : S.rules.length ≤ T.rules.length
 excepts : S.excepts.length ≤ T.excepts.length
 totals : S.totals.length ≤ T.totals.length
theorem Less.refl (S : StatM) : Less S S := by constructor <;> first | rfl | exact Nat.le_refl _
theorem Less.trans {S T U : StatM} (h : Less S T) (k : Less T U) : Less S U := by
 constructor
 · exact k.title.trans h.title
 · exact Nat.le_trans h.kinds k.kinds
 · exact Nat.le_trans h.members k.members
 · exact Nat.le_trans h.preds k.preds
 · exact Nat.le_trans h.classes k.classes
 · exact Nat.le_trans h.sources k.sources
 · exact Nat.le_trans h.rules k.rules
 · exact Nat.le_trans h.excepts k.excepts
 · exact Nat.le_trans h.totals k.totals
section
variable (F : j5) (K : fQ)
theorem pX (sort : Nat) : Ef (jJ K sort) := .bind (gJ K)
theorem sm : Ef (iE F K) := .bind (pX K 3)
theorem yd : Ef (kS K) := .bind (zI K 16 (gJ K))
theorem xM : Ef (ky F K) := .bind (gJ K)
theorem sU : Ef (jm K) := .bind (gJ K)
theorem yz : Ef (kW F K) := .bind (gJ K)
theorem nh (S : StatM) : Good (fun K => lN F K S) :=
 .bind (eR _) fun b => .ite b (.bind (fW _ _ good_name) fun _ => .pure _) <|
 .bind (eR _) fun b => .ite b (.bind (ny _) fun _ => .pure _) <|
 .bind (eR _) fun b => .ite b (.bind (fW _ _ (kP _)) fun _ => .pure _) <|
 .bind (eR _) fun b => .ite b (.bind (fW _ _ (kP _)) fun _ => .pure _) <|
 .bind (eR _) fun b => .ite b (.bind (fW _ _ (lK F)) fun _ => .pure _) <|
 .bind (eR _) fun b => .ite b (.bind (fW _ _ oY) fun _ => .pure _) <|
 .bind (eR _) fun b => .ite b (.bind (fW _ _ (nZ F)) fun _ => .pure _) <|
 .bind (eR _) fun b => .ite b (.bind (fW _ _ (rW F)) fun _ => .pure _) <|
 .bind (eR _) fun b => .ite b (.bind (fW _ _ mA) fun _ => .pure _) <|
 .bind (eR _) fun b => .ite b (.bind (fW _ _ (oQ F)) fun _ => .pure _) (.fail _)
end
end Go.Proofs.YtbpphlmakmeoaaaGreatDoor.Sy
