/- No reader gives up with the number of no error. -/
import Derived.Test.YthnjmfkiohgkkaaGreatDoorMoves
import Derived.KernelRfl
namespace Go.Proofs.YthnjmfkiohgkkaaGreatDoor.Sy

def Nz {α : Type} (f : M α) : Prop := ∀ s c n, f s = .bad c n → c ≠ 0

theorem Nz.pure {α : Type} (a : α) : Nz (Pure.pure a : M α) := by intro s c n h; cases h
theorem Nz.fail {α : Type} (e : Int) (he : e ≠ 0) : Nz (failM e : M α) := by intro s c n h; cases h; exact he
theorem Nz.ask {α : Type} (q : RS → α) : Nz (askM q) := by intro s c n h; cases h
theorem Nz.set (q : RS → RS) : Nz (setM q) := by intro s c n h; cases h
theorem Nz.bind {α β : Type} {x : M α} {f : α → M β} (hx : Nz x) (hf : ∀ a, Nz (f a)) : Nz (x >>= f) := by
  intro s c n h
  cases hxs : x s with
  | ok a t => rw [bind_run hxs] at h; exact hf a t c n h
  | bad e m => rw [bind_bad hxs] at h; cases h; exact hx s _ _ hxs
theorem Nz.ite {α : Type} {x y : M α} (c : Bool) (hx : c = true → Nz x) (hy : c = false → Nz y) : Nz (if c = true then x else y) := by
  cases c
  · simpa using hy rfl
  · simpa using hx rfl

section
variable (F : Fns) (K : Toks)
theorem nz_take : Nz (takeM K) := by
  intro s c n h
  unfold takeM at h
  split at h
  · cases h; decide
  · cases h
theorem nz_hasMark (t : Bytes) : Nz (hasMark K t) := .bind (.ask _) fun b => .ite b (fun _ => .bind (nz_take K) fun _ => .pure _) fun _ => .pure _
theorem nz_hasWord (t : Bytes) : Nz (hasWord K t) := .bind (.ask _) fun b => .ite b (fun _ => .bind (nz_take K) fun _ => .pure _) fun _ => .pure _
theorem nz_wantMark (t : Bytes) : Nz (wantMark K t) := .bind (nz_hasMark K t) fun b => .ite b (fun _ => .pure _) fun _ => .fail _ (by decide)
theorem nz_wantWord (t : Bytes) : Nz (wantWord K t) := .bind (nz_hasWord K t) fun b => .ite b (fun _ => .pure _) fun _ => .fail _ (by decide)
theorem nz_add {α : Type} (k : Nat) (most : Int) {read : M α} (h : Nz read) : Nz (addM k most read) := .bind (.set _) fun _ => h
theorem nz_loop {α : Type} (most : Int) {read : M α} {more : M Bool} (h : Nz read) (hm : Nz more) : ∀ (f : Nat) (acc : List α), Nz (loopM most read more f acc)
  | 0, _ => by intro s c n e; cases e; decide
  | f + 1, acc => .bind hm fun b => .ite b (fun _ => .bind (nz_add _ _ h) fun x => nz_loop most h hm f (acc ++ [x])) fun _ => .pure _
theorem nz_list {α : Type} (most : Int) {read : M α} {more : M Bool} (h : Nz read) (hm : Nz more) : Nz (listM K most read more) := .bind (nz_add _ _ h) fun x => nz_loop most h hm _ [x]
theorem nz_name : Nz (nameM K) := .bind (.ask _) fun b => .ite b (fun _ => nz_take K) fun _ => .fail _ (by decide)
theorem nz_arg : Nz (argM K) := .bind (.ask _) fun b => .ite b (fun _ => nz_take K) fun _ => nz_name K
theorem nz_quote : Nz (quoteM K) := .bind (.ask _) fun b => .ite b (fun _ => nz_take K) fun _ => .fail _ (by decide)
theorem nz_date : Nz (dateM F K) := .bind (.ask _) fun b => .ite b (fun _ => .bind (.ask _) fun _ => .bind (nz_take K) fun _ => .pure _) fun _ => .fail _ (by decide)
theorem nz_int (a b : Int) : Nz (intM F K a b) :=
  .bind (.ask _) fun b => .ite b (fun _ => .bind (.ask _) fun b => .ite b (fun _ => .bind (.ask _) fun _ => .bind (nz_take K) fun _ => .pure _) fun _ => .fail _ (by decide)) fun _ => .fail _ (by decide)
theorem nz_amount (sg : Bytes) : Nz (amountM F K sg) :=
  .bind (.ask _) fun b => .ite b (fun _ => .bind (.ask _) fun m => .ite (decide (m.2 = 0)) (fun _ => .bind (nz_take K) fun _ => .pure _) fun h => .fail _ (by simpa using h)) fun _ => .fail _ (by decide)
theorem nz_money : Nz (moneyM F K) := .bind (nz_hasMark K _) fun b => .ite b (fun _ => nz_amount F K _) fun _ => nz_amount F K _
theorem nz_comma : Nz (commaM K) := nz_hasMark K _
theorem nz_brackets {read : M Bytes} (h : Nz read) : Nz (bracketsM K read) := .bind (nz_hasMark K _) fun b => .ite b (fun _ => .bind (nz_list K 4 h (nz_comma K)) fun _ => .bind (nz_wantMark K _) fun _ => .pure _) fun _ => .pure _
theorem nz_literal : Nz (literalM F K) :=
  .bind (nz_hasMark K _) fun _ => .bind (nz_name K) fun _ => .bind (nz_brackets K (nz_arg K)) fun _ => .bind (nz_hasMark K _) fun b => .ite b (fun _ => .bind (nz_money F K) fun _ => .pure _) fun _ => .pure _
theorem nz_plainTerm : Nz (plainTermM F K) :=
  .bind (.ask _) fun b => .ite b
    (fun _ => .bind (.ask _) fun b => .ite b (fun _ => .bind (nz_int F K _ _) fun _ => .bind (nz_wantMark K _) fun _ => .bind (nz_name K) fun _ => .bind (nz_brackets K (nz_arg K)) fun _ => .pure _) fun _ => .bind (nz_money F K) fun _ => .pure _)
    fun _ => .bind (.ask _) fun b => .ite b (fun _ => .bind (nz_money F K) fun _ => .pure _) fun _ => .bind (nz_name K) fun _ => .bind (nz_brackets K (nz_arg K)) fun _ => .pure _
theorem nz_term : Nz (termM F K) := .bind (nz_plainTerm F K) fun _ => .bind (.ask _) fun b => .ite b (fun _ => .pure _) fun _ => .pure _
theorem nz_sign : Nz (signM K) := .bind (nz_hasMark K _) fun m => .bind (.set _) fun _ => .ite m (fun _ => .pure _) fun _ => nz_hasMark K _
theorem nz_side : Nz (sideM F K) := .bind (.set _) fun _ => nz_list K 8 (nz_term F K) (nz_sign K)
theorem nz_op : Nz (opM K) := .bind (.ask _) fun _ => .ite _ (fun _ => .fail _ (by decide)) fun _ => .bind (nz_take K) fun _ => .pure _
theorem nz_arrow : Nz (arrowM K) := .bind (.ask _) fun _ => .ite _ (fun _ => .fail _ (by decide)) fun _ => .bind (nz_take K) fun _ => .pure _
theorem nz_guard : Nz (guardM F K) := .bind (nz_wantMark K _) fun _ => .bind (nz_side F K) fun _ => .bind (nz_op K) fun _ => .bind (nz_side F K) fun _ => .bind (nz_wantMark K _) fun _ => .pure _
theorem nz_unlike : Nz (unlikeM K) := .bind (nz_arg K) fun _ => .bind (nz_wantMark K _) fun _ => .bind (nz_arg K) fun _ => .pure _
theorem nz_premise : Nz (premiseM F K) :=
  .bind (.ask _) fun b => .ite b (fun _ => nz_unlike K) fun _ => .bind (.ask _) fun b => .ite b (fun _ => .bind (nz_guard F K) fun _ => .pure _) fun _ => .bind (nz_literal F K) fun _ => .pure _
theorem nz_body : Nz (bodyM F K) := .bind (.ask _) fun b => .ite b (fun _ => nz_list K 16 (nz_premise F K) (nz_comma K)) fun _ => .pure _
theorem nz_until : Nz (untilM F K) := .bind (nz_hasWord K _) fun b => .ite b (fun _ => nz_date F K) fun _ => .pure _
theorem nz_rule : Nz (ruleM F K) :=
  .bind (nz_name K) fun _ => .bind (nz_wantWord K _) fun _ => .bind (nz_name K) fun _ => .bind (nz_wantWord K _) fun _ => .bind (nz_date F K) fun _ => .bind (nz_until F K) fun _ =>
    .bind (nz_wantMark K _) fun _ => .bind (nz_body F K) fun _ => .bind (nz_arrow K) fun _ => .bind (nz_literal F K) fun _ => .pure _
theorem nz_members (most : Int) : Nz (membersM K most) := .bind (nz_list K most (nz_name K) (nz_comma K)) fun _ => .bind (nz_wantMark K _) fun _ => .bind (nz_name K) fun _ => .pure _
theorem nz_pred (sort : Nat) : Nz (predM K sort) := .bind (nz_name K) fun _ => .bind (nz_brackets K (nz_name K)) fun _ => .pure _
theorem nz_amountPred : Nz (amountPredM F K) := .bind (nz_pred K 3) fun _ => .bind (nz_wantMark K _) fun _ => .bind (nz_list K 64 (nz_money F K) (nz_comma K)) fun _ => .pure _
theorem nz_class : Nz (classM K) := .bind (nz_list K 16 (nz_name K) (nz_comma K)) fun _ => .ite _ (fun _ => .fail _ (by decide)) fun _ => .pure _
theorem nz_source : Nz (sourceM F K) := .bind (nz_name K) fun _ => .bind (nz_wantWord K _) fun _ => .bind (nz_int F K _ _) fun _ => .pure _
theorem nz_exception : Nz (exceptionM K) := .bind (nz_name K) fun _ => .bind (nz_wantWord K _) fun _ => .bind (nz_name K) fun _ => .pure _
theorem nz_total : Nz (totalM F K) :=
  .bind (nz_name K) fun _ => .bind (nz_wantMark K _) fun _ => .bind (nz_name K) fun _ => .bind (nz_wantMark K _) fun _ => .bind (nz_wantMark K _) fun _ =>
    .bind (nz_list K 16 (nz_name K) (nz_comma K)) fun _ => .bind (nz_hasWord K _) fun b => .ite b (fun _ => .bind (nz_money F K) fun _ => .pure _) fun _ => .pure _
theorem nz_item (S : StatM) : Nz (itemM F K S) :=
  .bind (nz_hasWord K _) fun b => .ite b (fun _ => .bind (nz_add _ _ (nz_name K)) fun _ => .pure _) fun _ =>
  .bind (nz_hasWord K _) fun b => .ite b (fun _ => .bind (nz_members K _) fun _ => .pure _) fun _ =>
  .bind (nz_hasWord K _) fun b => .ite b (fun _ => .bind (nz_add _ _ (nz_pred K 1)) fun _ => .pure _) fun _ =>
  .bind (nz_hasWord K _) fun b => .ite b (fun _ => .bind (nz_add _ _ (nz_pred K 2)) fun _ => .pure _) fun _ =>
  .bind (nz_hasWord K _) fun b => .ite b (fun _ => .bind (nz_add _ _ (nz_amountPred F K)) fun _ => .pure _) fun _ =>
  .bind (nz_hasWord K _) fun b => .ite b (fun _ => .bind (nz_add _ _ (nz_class K)) fun _ => .pure _) fun _ =>
  .bind (nz_hasWord K _) fun b => .ite b (fun _ => .bind (nz_add _ _ (nz_source F K)) fun _ => .pure _) fun _ =>
  .bind (nz_hasWord K _) fun b => .ite b (fun _ => .bind (nz_add _ _ (nz_rule F K)) fun _ => .pure _) fun _ =>
  .bind (nz_hasWord K _) fun b => .ite b (fun _ => .bind (nz_add _ _ (nz_exception K)) fun _ => .pure _) fun _ =>
  .bind (nz_hasWord K _) fun b => .ite b (fun _ => .bind (nz_add _ _ (nz_total F K)) fun _ => .pure _) fun _ => .fail _ (by decide)
theorem nz_items : ∀ (f : Nat) (S : StatM), Nz (itemsM F K f S)
  | 0, _ => by intro s c n e; cases e; decide
  | f + 1, S => .bind (.ask _) fun b => .ite b (fun _ => .bind (nz_item F K S) fun S' => .bind (nz_wantMark K _) fun _ => nz_items f S') fun _ => .pure _
theorem nz_title : Nz (titleM K) := .bind (nz_hasWord K _) fun b => .ite b (fun _ => .bind (nz_quote K) fun _ => .bind (nz_wantMark K _) fun _ => .pure _) fun _ => .pure _
theorem nz_text : Nz (textM F K) := .bind (nz_title K) fun _ => nz_items F K _ _
end

/-- The page's examples, read. -/
theorem alive_one (F : Fns) : textM F [(1, [107, 105, 110, 100]), (1, [112, 101, 114, 115, 111, 110]), (6, [46]), (1, [109, 101, 109, 98, 101, 114]), (1, [97, 110, 110, 97]), (6, [44]), (1, [98, 101, 110]), (6, [58]), (1, [112, 101, 114, 115, 111, 110]), (6, [46]),
    (1, [112, 114, 101, 100]), (1, [111, 108, 100]), (6, [40]), (1, [112, 101, 114, 115, 111, 110]), (6, [41]), (6, [46])] ⟨0, false, false⟩ =
    .ok ⟨[], [[112, 101, 114, 115, 111, 110]], [([97, 110, 110, 97], [112, 101, 114, 115, 111, 110]), ([98, 101, 110], [112, 101, 114, 115, 111, 110])], [⟨[111, 108, 100], 1, [[112, 101, 114, 115, 111, 110]], []⟩], [], [], [], [], []⟩ ⟨16, false, false⟩ := by kernel_rfl
theorem alive_two (F : Fns) : textM F [(1, [107, 105, 110, 100]), (1, [114, 117, 108, 101]), (6, [46])] ⟨0, false, false⟩ = .bad 51 1 := by kernel_rfl
end Go.Proofs.YthnjmfkiohgkkaaGreatDoor.Sy
