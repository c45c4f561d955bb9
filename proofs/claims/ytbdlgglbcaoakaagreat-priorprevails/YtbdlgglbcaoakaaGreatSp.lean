/- What a name and a variable are: the program's words and the document's. -/
import Derived.Test.YtbdlgglbcaoakaaGreatProg
import Derived.WalkKit
import Derived.WalkSpells
import Derived.WalkLawsBesides
import Derived.Shelf.Abstract
import Derived.Deep.AppendLies
namespace Go.Proofs.YtbdlgglbcaoakaaGreat
open Go.RowKit Go.Shelf

theorem hide {p : Prop} (h : p) : Hid p := h
theorem ret_int {k : IntKind} {a b : Int} (h : a = b) : Ending.returned (.int k a) = .returned (.int k b) := by rw [h]
theorem ret_bool {a b : Bool} (h : a = b) : Ending.returned (.bool a) = .returned (.bool b) := by rw [h]
theorem getD_at (s : ByteArray) (k : Nat) (h : k < s.size) : s.data.toList.getD k 0 = s[k] := by
  have : s.data.size = s.size := rfl
  simp [List.getD, h, this]
  rfl

def smallB (c : UInt8) : Bool := decide (97 ≤ (c.toNat : Int) ∧ (c.toNat : Int) ≤ 122)
def capB (c : UInt8) : Bool := decide (65 ≤ (c.toNat : Int) ∧ (c.toNat : Int) ≤ 90)
def nameB (c : UInt8) : Bool := smallB c || decide (48 ≤ (c.toNat : Int) ∧ (c.toNat : Int) ≤ 57) || decide ((c.toNat : Int) = 95)
def varB (c : UInt8) : Bool := nameB c || capB c

/-- Whether bytes begin and go on so, and are no more than 32. -/
def speltB (f g : UInt8 → Bool) (s : List UInt8) : Bool := decide (1 ≤ s.length) && decide (s.length ≤ 32) && f (s.getD 0 0) && s.all g
def isNameB (s : List UInt8) : Bool := speltB smallB nameB s
def isVarB (s : List UInt8) : Bool := speltB capB varB s

set_option maxHeartbeats 800000 in
theorem small_any (c : UInt8) (w : World) : Calls Tryz.prog 124 #[.int .u8 c.toNat] w fun e w' => e = .returned (.bool (smallB c)) ∧ w' = w := by
  unfold smallB
  go_enter Tryz.func124, Tryz.ntmps124
  go_wp2
  all_goals go_ret
  all_goals refine ⟨ret_bool ?_, rfl⟩
  all_goals simp
  all_goals omega

set_option maxHeartbeats 800000 in
theorem capital_any (c : UInt8) (w : World) : Calls Tryz.prog 134 #[.int .u8 c.toNat] w fun e w' => e = .returned (.bool (capB c)) ∧ w' = w := by
  unfold capB
  go_enter Tryz.func134, Tryz.ntmps134
  go_wp2
  all_goals go_ret
  all_goals refine ⟨ret_bool ?_, rfl⟩
  all_goals simp
  all_goals omega

set_option maxHeartbeats 800000 in
theorem inName_any (c : UInt8) (w : World) : Calls Tryz.prog 125 #[.int .u8 c.toNat] w fun e w' => e = .returned (.bool (nameB c)) ∧ w' = w := by
  have C := hide (small_any c w)
  unfold nameB
  cases hb : smallB c with
  | true =>
    rw [hb] at C
    clear hb
    go_enter Tryz.func125, Tryz.ntmps125
    go_wp2_with (first | (go_at_call 124; refine C.out.mono ?_; rintro _ w1 ⟨rfl, hw1⟩; subst w1))
    go_ret
    exact ⟨ret_bool (by simp), rfl⟩
  | false =>
    rw [hb] at C
    clear hb
    go_enter Tryz.func125, Tryz.ntmps125
    go_wp2_with (first | (go_at_call 124; refine C.out.mono ?_; rintro _ w1 ⟨rfl, hw1⟩; subst w1))
    all_goals go_ret
    all_goals refine ⟨ret_bool ?_, rfl⟩
    all_goals rw [Bool.eq_iff_iff]
    all_goals simp
    all_goals omega

set_option maxHeartbeats 800000 in
theorem inVar_any (c : UInt8) (w : World) : Calls Tryz.prog 135 #[.int .u8 c.toNat] w fun e w' => e = .returned (.bool (varB c)) ∧ w' = w := by
  have C := hide (inName_any c w)
  have D := hide (capital_any c w)
  unfold varB
  cases hb : nameB c with
  | true =>
    rw [hb] at C
    clear hb
    go_enter Tryz.func135, Tryz.ntmps135
    go_wp2_with (first | (go_at_call 125; refine C.out.mono ?_; rintro _ w1 ⟨rfl, hw1⟩; subst w1))
    go_ret
    exact ⟨ret_bool (by simp), rfl⟩
  | false =>
    rw [hb] at C
    clear hb
    go_enter Tryz.func135, Tryz.ntmps135
    go_wp2_with (first | (go_at_call 125; refine C.out.mono ?_; rintro _ w1 ⟨rfl, hw1⟩; subst w1) | (go_at_call 134; refine D.out.mono ?_; rintro _ w1 ⟨rfl, hw1⟩; subst w1))
    all_goals go_ret
    all_goals refine ⟨ret_bool ?_, rfl⟩
    all_goals simp

/-- The list of a text's bytes, one byte further. -/
theorem all_step {g : UInt8 → Bool} {s : ByteArray} {k : Nat} (hk : k < s.size) (h : (s.data.toList.take k).all g = true) (hg : g s[k] = true) : (s.data.toList.take (k + 1)).all g = true := by
  have e : s.data.toList[k]? = some s[k] := by
    have : s.data.size = s.size := rfl
    simp [hk, this]; rfl
  rw [List.take_add_one, e]
  simp only [Option.toList_some, List.all_append, h, List.all_cons, hg, List.all_nil, Bool.and_self]
theorem all_no {g : UInt8 → Bool} {s : ByteArray} {k : Nat} (hk : k < s.size) (hg : g s[k] = false) : s.data.toList.all g = false := by
  have e : s.data.toList[k]? = some s[k] := by
    have : s.data.size = s.size := rfl
    simp [hk, this]; rfl
  have hm := List.mem_of_getElem? e
  cases h : s.data.toList.all g with
  | false => rfl
  | true => exact absurd (List.all_eq_true.1 h _ hm) (by simp [hg])

set_option maxRecDepth 100000 in
set_option maxHeartbeats 1600000 in
theorem spelt_any (F G : Nat) (f g : UInt8 → Bool) (hf : ∀ c w, Calls Tryz.prog F #[.int .u8 (UInt8.toNat c)] w fun e w' => e = .returned (.bool (f c)) ∧ w' = w) (hg : ∀ c w, Calls Tryz.prog G #[.int .u8 (UInt8.toNat c)] w fun e w' => e = .returned (.bool (g c)) ∧ w' = w)
    (ef : ∀ args w, (callFunc F args).run Tryz.prog w = .ok (.enter F args) w) (eg : ∀ args w, (callFunc G args).run Tryz.prog w = .ok (.enter G args) w) (s : ByteArray) (w : World) :
    Calls Tryz.prog 123 #[.string s, .func (.func F) #[] #[], .func (.func G) #[] #[]] w fun e w' => e = .returned (.bool (speltB f g s.data.toList)) ∧ w' = w := by
  have HF := hide hf
  have HG := hide hg
  clear hf hg
  have hl : s.data.toList.length = s.size := by simp
  by_cases h1 : 1 ≤ s.size
  rotate_left 1
  · have hr : Hid (speltB f g s.data.toList = false) := by unfold Hid speltB; rw [hl, decide_eq_false h1]; rfl
    clear hl
    go_enter Tryz.func123, Tryz.ntmps123
    go_wp2_with fail
    go_ret
    exact ⟨ret_bool hr.out.symm, rfl⟩
  by_cases h2 : s.size ≤ 32
  rotate_left 1
  · have hr : Hid (speltB f g s.data.toList = false) := by unfold Hid speltB; rw [hl, decide_eq_false h2]; simp
    clear hl
    go_enter Tryz.func123, Tryz.ntmps123
    go_wp2_with fail
    go_ret
    exact ⟨ret_bool hr.out.symm, rfl⟩
  have C0 := hide (HF.out s[0] w)
  cases hb : f s[0] with
  | false =>
    have hr : Hid (speltB f g s.data.toList = false) := by unfold Hid speltB; rw [getD_at s 0 (by omega), hb]; simp
    rw [hb] at C0
    clear hl hb
    go_enter Tryz.func123, Tryz.ntmps123
    go_wp2_with (first | (refine C0.out.mono ?_; rintro _ w1 ⟨rfl, hw1⟩; subst w1))
    go_ret
    exact ⟨ret_bool hr.out.symm, rfl⟩
  | true =>
    have hr : Hid (speltB f g s.data.toList = s.data.toList.all g) := by unfold Hid speltB; rw [getD_at s 0 (by omega), hb, hl, decide_eq_true h1, decide_eq_true h2]; simp
    rw [hb] at C0
    clear hl hb
    go_enter Tryz.func123, Tryz.ntmps123
    go_wp2_with (first | (refine C0.out.mono ?_; rintro _ w1 ⟨rfl, hw1⟩; subst w1))
    go_loop [25] (fun x => ∃ k : Nat, k ≤ s.size ∧ x = .int .i64 k ∧ Hid ((s.data.toList.take k).all g = true)) (fun x => s.size - (intOf x).toNat)
    case atStart => exact ⟨0, by omega, rfl, hide (by simp)⟩
    case round =>
      obtain ⟨k, hk, rfl, HK⟩ := hrel
      by_cases hlt : k < s.size
      · have C1 := hide (HG.out s[k] w)
        cases hb : g s[k] with
        | true =>
          have HN := hide (all_step hlt HK.out hb)
          rw [hb] at C1
          clear hb
          go_wp2_with (first | (refine C1.out.mono ?_; rintro _ w1 ⟨rfl, hw1⟩; subst w1))
          go_round
          case rel => exact ⟨k + 1, by omega, by go_num, HN⟩
          case measure => simp [intOf]; omega
        | false =>
          have HN := hide (all_no hlt hb)
          rw [hb] at C1
          clear hb
          go_wp2_with (first | (refine C1.out.mono ?_; rintro _ w1 ⟨rfl, hw1⟩; subst w1))
          go_ret
          exact ⟨ret_bool ((hr.out.trans HN.out).symm), rfl⟩
      · have HN : Hid (s.data.toList.all g = true) := by
          have := HK.out
          rw [List.take_of_length_le (by simp; have : s.data.size = s.size := rfl; omega)] at this
          exact this
        go_wp2_with fail
        go_ret
        exact ⟨ret_bool ((hr.out.trans HN.out).symm), rfl⟩

theorem isName_any (s : ByteArray) (w : World) : Calls Tryz.prog 108 #[.string s] w fun e w' => e = .returned (.bool (isNameB s.data.toList)) ∧ w' = w := by
  have C := hide (spelt_any 124 125 smallB nameB small_any inName_any (enters_of Tryz.func124 (by kernel_rfl) rfl) (enters_of Tryz.func125 (by kernel_rfl) rfl) s w)
  go_enter Tryz.func108, Tryz.ntmps108
  go_wp2_with (first | (go_at_call 123; refine C.out.mono ?_; rintro _ w1 ⟨rfl, hw1⟩; subst w1))
  go_ret
  exact ⟨rfl, rfl⟩

theorem isVar_any (s : ByteArray) (w : World) : Calls Tryz.prog 131 #[.string s] w fun e w' => e = .returned (.bool (isVarB s.data.toList)) ∧ w' = w := by
  have C := hide (spelt_any 134 135 capB varB capital_any inVar_any (enters_of Tryz.func134 (by kernel_rfl) rfl) (enters_of Tryz.func135 (by kernel_rfl) rfl) s w)
  go_enter Tryz.func131, Tryz.ntmps131
  go_wp2_with (first | (go_at_call 123; refine C.out.mono ?_; rintro _ w1 ⟨rfl, hw1⟩; subst w1))
  go_ret
  exact ⟨rfl, rfl⟩
end Go.Proofs.YtbdlgglbcaoakaaGreat
/- What Check asks of a statute: plain words, no program. -/
namespace Go.Proofs.YtbdlgglbcaoakaaGreat

abbrev Bytes := List UInt8
structure LitM where
  neg : Bool
  pred : Bytes
  args : List Bytes
  hasValue : Bool
  value : Int
structure TermM where
  coef : Int
  pred : Bytes
  args : List Bytes
  value : Int
structure GuardM where
  left : List TermM
  op : Int
  right : List TermM
structure PremM where
  kind : Int
  lit : LitM
  guard : GuardM
  a : Bytes
  b : Bytes
structure RuleM where
  name : Bytes
  source : Bytes
  day : Int
  till : Int
  body : List PremM
  arrow : Int
  head : LitM
structure PredM where
  name : Bytes
  sort : Int
  kinds : List Bytes
  values : List Int
structure TotalM where
  name : Bytes
  kind : Bytes
  preds : List Bytes
  hasCap : Bool
  cap : Int
structure StatM where
  title : Bytes
  kinds : List Bytes
  members : List (Bytes × Bytes)
  preds : List PredM
  classes : List (List Bytes)
  sources : List (Bytes × Int)
  rules : List RuleM
  excepts : List (Bytes × Bytes)
  totals : List TotalM

/-- A name's number. -/
def posB (l : List Bytes) (s : Bytes) : Nat := if s ∈ l then l.idxOf s else 0

abbrev Er := Except Int
def wantM (b : Bool) (c : Int) : Er Unit := if b then .ok () else .error c
theorem ex_go {α β : Type} {x : Er α} {f : α → Er β} {o : Er β} {a : α} (h : (x >>= f) = o) (hx : x = .ok a) : f a = o := by rw [hx] at h; exact h
theorem ex_no {α β : Type} {x : Er α} {f : α → Er β} {o : Er β} {c : Int} (h : (x >>= f) = o) (hx : x = .error c) : .error c = o := by rw [hx] at h; exact h
theorem want_t {b : Bool} {c : Int} (h : b = true) : wantM b c = .ok () := by rw [h]; rfl
theorem want_f {b : Bool} {c : Int} (h : b = false) : wantM b c = .error c := by rw [h]; rfl

/-- The name of an item. -/
def calledM (l : List Bytes) (s : Bytes) (n : Nat) : Er Unit := wantM (isNameB s) 71 >>= fun _ => wantM (decide ((posB l s : Int) = (n : Int))) 6
/-- The number that a name has. -/
def findM (l : List Bytes) (s : Bytes) (c : Int) : Er Nat := wantM (decide (s ∈ l)) c >>= fun _ => .ok (posB l s)

/-- What parts of a statute are asked in rules. -/
structure Ctx where
  kinds : List Bytes
  members : List (Bytes × Bytes)
  preds : List PredM
def noPred : PredM := ⟨[], 0, [], []⟩
def Ctx.names (C : Ctx) : List Bytes := C.preds.map (·.name)
def Ctx.people (C : Ctx) : List Bytes := C.members.map (·.1)

def kindM (kinds : List Bytes) (n : Nat) (s : Bytes) : Er Unit := calledM kinds s n
def memberM (C : Ctx) (n : Nat) (m : Bytes × Bytes) : Er Unit := calledM C.people m.1 n >>= fun _ => findM C.kinds m.2 81 >>= fun _ => .ok ()

def mayB (v : Int) : Bool := decide (-1000000000000000 ≤ v) && decide (v ≤ 1000000000000000)
def awardB (v : Int) : Bool := mayB v && decide (0 ≤ v)

/-- Of each thing, with its number, whether it is so. -/
def allM {α : Type} (f : Nat → α → Er Unit) : Nat → List α → Er Unit
  | _, [] => .ok ()
  | k, a :: r => f k a >>= fun _ => allM f (k + 1) r

def predM (C : Ctx) (n : Nat) (p : PredM) : Er Unit :=
  calledM C.names p.name n >>= fun _ =>
  wantM (decide (1 ≤ p.sort) && decide (p.sort ≤ 3)) 84 >>= fun _ =>
  wantM (decide ((p.kinds.length : Int) ≤ 4) && decide ((p.values.length : Int) ≤ 64)) 3 >>= fun _ =>
  allM (fun _ k => findM C.kinds k 81 >>= fun _ => .ok ()) 0 p.kinds >>= fun _ =>
  wantM (decide (0 < (p.values.length : Int)) == decide (p.sort = 3)) 85 >>= fun _ =>
  allM (fun i v => wantM (awardB v && !decide (v ∈ p.values.take i)) 85) 0 p.values

def findPredM (C : Ctx) (s : Bytes) : Er PredM := findM C.names s 82 >>= fun n => .ok (C.preds.getD n noPred)

/-- A class's names, those that were named ahead known. -/
def classNamesM (C : Ctx) (first : Bytes) : List Bytes → List Bytes → Er Unit
  | _, [] => .ok ()
  | seen, s :: r => findPredM C s >>= fun p => wantM (decide (p.sort = 1)) 84 >>= fun _ => findPredM C first >>= fun q => wantM (decide (p.kinds = q.kinds)) 87 >>= fun _ => wantM (!decide (s ∈ seen)) 6 >>= fun _ => classNamesM C first (seen ++ [s]) r
def classM (C : Ctx) (seen : List Bytes) (l : List Bytes) : Er Unit := wantM (decide (2 ≤ (l.length : Int)) && decide ((l.length : Int) ≤ 16)) 3 >>= fun _ => classNamesM C (l.headD []) seen l

def sourceM (srcs : List Bytes) (n : Nat) (s : Bytes × Int) : Er Unit := calledM srcs s.1 n >>= fun _ => wantM (decide (0 ≤ s.2) && decide (s.2 ≤ 1000)) 4

/-- A rule's variables and their kinds; -1: none yet. -/
abbrev Scope := List (Bytes × Int)
def Scope.names (v : Scope) : List Bytes := v.map (·.1)
def Scope.kinds (v : Scope) : List Int := v.map (·.2)
def standM (v : Scope) (s : Bytes) : Scope := if s ∈ v.names then v else v ++ [(s, -1)]
def kindAt (v : Scope) (s : Bytes) : Int := v.kinds.getD (posB v.names s) 0
/-- The variable stands in a place of that kind. -/
def bindS (v : Scope) (s : Bytes) (k : Int) : Scope := if kindAt (standM v s) s = -1 then (standM v s).set (posB (standM v s).names s) (s, k) else standM v s
def bindM (v : Scope) (s : Bytes) (k : Int) : Er Scope := wantM (decide (kindAt (bindS v s k) s = k)) 81 >>= fun _ => .ok (bindS v s k)

def findMemberM (C : Ctx) (s : Bytes) : Er Nat := wantM (isNameB s) 71 >>= fun _ => findM C.people s 82

def argsM (C : Ctx) : Scope → List Nat → List Bytes → List Bytes → Er (Scope × List Nat)
  | v, ms, s :: r, k :: q =>
    if isVarB s then bindM v s (posB C.kinds k) >>= fun v' => argsM C v' ms r q
    else findMemberM C s >>= fun m => wantM (decide ((C.members.getD m ([], [])).2 = k)) 81 >>= fun _ => argsM C v (ms ++ [m]) r q
  | v, ms, _, _ => .ok (v, ms)
def argumentsM (C : Ctx) (v : Scope) (p : PredM) (l : List Bytes) : Er (Scope × List Nat) := wantM (decide ((l.length : Int) = (p.kinds.length : Int))) 83 >>= fun _ => argsM C v [] l p.kinds

def literalM (C : Ctx) (v : Scope) (l : LitM) : Er (Scope × List Nat) :=
  findPredM C l.pred >>= fun p =>
  wantM (!decide (p.sort = 2)) 84 >>= fun _ =>
  argumentsM C v p l.args >>= fun x =>
  wantM (l.hasValue == decide (p.sort = 3)) 84 >>= fun _ =>
  wantM (l.hasValue || decide (l.value = 0)) 84 >>= fun _ =>
  wantM (!l.hasValue || decide (l.value ∈ p.values)) 85 >>= fun _ => .ok x

def termM (C : Ctx) (v : Scope) (t : TermM) : Er Scope :=
  if t.pred = [] then wantM (decide (t.coef = 0) && decide ((t.args.length : Int) = 0)) 101 >>= fun _ => wantM (mayB t.value) 22 >>= fun _ => .ok v
  else findPredM C t.pred >>= fun p => wantM (decide (p.sort = 2)) 84 >>= fun _ => wantM (!decide (t.coef = 0) && decide (-1000 ≤ t.coef) && decide (t.coef ≤ 1000) && decide (t.value = 0)) 101 >>= fun _ => argumentsM C v p t.args >>= fun x => .ok x.1
def termsM (C : Ctx) : Scope → List TermM → Er Scope
  | v, [] => .ok v
  | v, t :: r => termM C v t >>= fun v' => termsM C v' r
def sideB (l : List TermM) : Bool := decide (1 ≤ l.length) && decide (l.length ≤ 8)
def guardM (C : Ctx) (v : Scope) (g : GuardM) : Er Scope :=
  wantM (decide (1 ≤ g.op) && decide (g.op ≤ 6)) 101 >>= fun _ => wantM (sideB g.left && sideB g.right) 101 >>= fun _ => termsM C v g.left >>= fun v' => termsM C v' g.right
def unlikeM (C : Ctx) (v : Scope) (s : Bytes) : Er Scope := if isVarB s then .ok (standM v s) else findMemberM C s >>= fun _ => .ok v
def premM (C : Ctx) (v : Scope) (p : PremM) : Er Scope :=
  if p.kind = 1 then literalM C v p.lit >>= fun x => .ok x.1
  else if p.kind = 2 then guardM C v p.guard
  else if p.kind = 3 then unlikeM C v p.a >>= fun v' => unlikeM C v' p.b
  else .error 1
def bodyM (C : Ctx) : Scope → List PremM → Er Scope
  | v, [] => .ok v
  | v, p :: r => premM C v p >>= fun v' => bodyM C v' r
def partsM (C : Ctx) (t : RuleM) : Er Scope := bodyM C [] t.body >>= fun v => literalM C v t.head >>= fun x => .ok x.1

def dayB (d : Int) : Bool := decide (1 ≤ d) && decide (d ≤ 3652059)
def ruleM (C : Ctx) (srcs names : List Bytes) (n : Nat) (t : RuleM) : Er Unit :=
  calledM names t.name n >>= fun _ =>
  findM srcs t.source 88 >>= fun _ =>
  wantM (dayB t.day && (decide (t.till = 0) || dayB t.till)) 31 >>= fun _ =>
  wantM (decide (t.till = 0) || decide (t.day < t.till)) 7 >>= fun _ =>
  wantM (decide (1 ≤ t.arrow) && decide (t.arrow ≤ 3)) 1 >>= fun _ =>
  wantM (decide ((t.body.length : Int) ≤ 16)) 3 >>= fun _ =>
  partsM C t >>= fun v => wantM (!decide ((-1 : Int) ∈ v.kinds)) 86

/-- An exception as a key. -/
def keyE (e : Bytes × Bytes) : Bytes := keyBytes [.string e.1, .string e.2]
def exceptM (names keys : List Bytes) (n : Nat) (e : Bytes × Bytes) : Er Unit := findM names e.1 82 >>= fun _ => findM names e.2 82 >>= fun _ => wantM (decide ((posB keys (keyE e) : Int) = (n : Int))) 6

def totalM (C : Ctx) (names : List Bytes) (n : Nat) (t : TotalM) : Er Unit :=
  calledM names t.name n >>= fun _ =>
  findM C.kinds t.kind 81 >>= fun _ =>
  wantM (decide (1 ≤ (t.preds.length : Int)) && decide ((t.preds.length : Int) ≤ 16)) 3 >>= fun _ =>
  allM (fun i s => findPredM C s >>= fun p => wantM (decide (p.sort = 3)) 84 >>= fun _ => wantM (decide ((p.kinds.length : Int) = 1) && decide (p.kinds.getD 0 [] = t.kind)) 83 >>= fun _ => wantM (!decide (s ∈ t.preds.take i)) 6) 0 t.preds >>= fun _ =>
  wantM (!t.hasCap || awardB t.cap) 22 >>= fun _ => wantM (t.hasCap || decide (t.cap = 0)) 1

def StatM.ctx (S : StatM) : Ctx := ⟨S.kinds, S.members, S.preds⟩
def StatM.srcs (S : StatM) : List Bytes := S.sources.map (·.1)
def StatM.heads (S : StatM) : List Bytes := S.rules.map (·.name)
def StatM.sums (S : StatM) : List Bytes := S.totals.map (·.name)
def StatM.keys (S : StatM) : List Bytes := S.excepts.map keyE

/-- What is asked of each item. -/
def StatM.items (S : StatM) : List (Er Unit) :=
  S.kinds.mapIdx (kindM S.kinds) ++ S.members.mapIdx (memberM S.ctx) ++ S.preds.mapIdx (predM S.ctx) ++ S.classes.mapIdx (fun n l => classM S.ctx (S.classes.take n).flatten l) ++
  S.sources.mapIdx (sourceM S.srcs) ++ S.rules.mapIdx (ruleM S.ctx S.srcs S.heads) ++ S.excepts.mapIdx (exceptM S.heads S.keys) ++ S.totals.mapIdx (totalM S.ctx S.sums)
def StatM.fitsB (S : StatM) : Bool := decide (S.kinds.length ≤ 16) && decide (S.members.length ≤ 64) && decide (S.preds.length ≤ 256) && decide (S.classes.length ≤ 64) && decide (S.sources.length ≤ 64) && decide (S.rules.length ≤ 512) && decide (S.excepts.length ≤ 512) && decide (S.totals.length ≤ 64)
/-- The first fault and its number. -/
def firstE : Nat → List (Er Unit) → Int × Nat
  | n, [] => (0, n)
  | n, .ok _ :: r => firstE (n + 1) r
  | n, .error c :: _ => (c, n)
def checkM (S : StatM) : Int × Nat := if S.fitsB then firstE 0 S.items else (3, 0)
end Go.Proofs.YtbdlgglbcaoakaaGreat
/- Appending one element to a row of the call's own: either it lies in the same row, and no other block has turned, or in a new block, and no old block has turned at all. -/
namespace Go.Proofs.YtbdlgglbcaoakaaGreat
open Go.RowKit

theorem run_append_two {P : Program} (w : World) (base : Nat) (t ty e : TypeId) (i : TypeInfo) (z : Value) (size bytes : Nat) (ht : P.underlying t = some (.slice e)) (hi : P.info? e = some i) (hz : i.zero = some z)
    (hsize : i.size = size) (hby : i.bytes = bytes) (hzs : z.cells.size = size) (hsz : 0 < size)
    (v : Value) (n : Nat) (xs : List Value) (hown : w.ownsRow base e size v n xs)
    (ad : Addr) (c : Nat) (news : List Value) (hl : news.length = size) (hnews : ∀ j u, news[j]? = some u → w.cell? (ad.add j) = some u) (h1 : ∀ u ∈ news, u.oneCell' = true)
    (h63 : n + 1 ≤ maxLen) (hbytes : (n + 1) * bytes ≤ 140737488355328) (hbase : base ≤ w.heap.size) :
    ∃ g cap w', (Builtin.append_ #[t, t] ty #[v, .slice (some ad) 1 c]).run P w = .ok (.slice (some ⟨g, 0, none⟩) (n + 1) cap) w' ∧
      w'.ownsRow base e size (.slice (some ⟨g, 0, none⟩) (n + 1) cap) (n + 1) (xs ++ news) ∧ ((v.ownBlock = some g ∧ w.grownBy w' (some g)) ∨ (g = w.heap.size ∧ w.grownBy w' none)) := by
  subst hsize
  subst hby
  have hsmall : n + 1 ≤ 9223372036854775807 := by simp only [maxLen] at h63; omega
  have hl' : news.length = 1 * i.size := by omega
  have hlen : (xs ++ news).length = (n + 1) * i.size := by rw [List.length_append, hown.1, hl, Nat.add_mul]; omega
  have fresh : ∀ (old : Nat), old < n + 1 →
      (w.drew.alloc (.cells (xs.toArray ++ news.toArray ++ Builtin.zeroCells z.cells (grownCap w (n + 1) old e - (n + 1))) e)).ownsRow base e i.size (.slice (some ⟨w.heap.size, 0, none⟩) (n + 1) (grownCap w (n + 1) old e)) (n + 1) (xs ++ news) ∧
      w.grownBy (w.drew.alloc (.cells (xs.toArray ++ news.toArray ++ Builtin.zeroCells z.cells (grownCap w (n + 1) old e - (n + 1))) e)) none := by
    intro old ho
    have hge := grownCap_ge w (n + 1) old e
    refine ⟨⟨hlen, .inr ⟨w.heap.size, _, _, rfl, hbase, heap_alloc_new w.drew _, hge, grownCap_le_maxLen w (n + 1) old e h63, ?_, ?_⟩⟩, ⟨rfl, rfl, rfl, by simp, fun k hk _ => Go.heap_alloc_old w.drew _ hk⟩⟩
    · simp only [Array.size_append, List.size_toArray, size_zeroCells, hzs, hown.1, hl]
      have : grownCap w (n + 1) old e = (n + 1) + (grownCap w (n + 1) old e - (n + 1)) := by omega
      generalize grownCap w (n + 1) old e - (n + 1) = r at *
      rw [this, Nat.add_mul, Nat.add_mul]
      omega
    · simp only [Array.toList_append, List.append_assoc]
      rw [← List.append_assoc, ← hlen]
      exact List.take_left
  rcases hown.2 with ⟨rfl, rfl⟩ | ⟨g, cap, cur, rfl, hbg, hg, hnc, hcm, hcs, htake⟩
  · have hx : xs = [] := List.eq_nil_of_length_eq_zero (by simpa using hown.1)
    subst hx
    have hr := run_append_nil (P := P) w t ty e i z ht hi hz ad 1 c news hl' hnews (by omega) (by omega) (by have hb := hbytes; simp only [Nat.zero_add] at hb; omega)
    have hgr := fresh 0 (by omega)
    simp only [Nat.zero_add, List.nil_append, Array.empty_append] at hgr ⊢
    exact ⟨_, _, _, hr, hgr.1, .inr ⟨rfl, hgr.2⟩⟩
  · by_cases hroom : n + 1 ≤ cap
    · have hfit : n * i.size + news.length ≤ cur.size := by
        rw [hl, hcs]
        have := Nat.mul_le_mul_right i.size hroom
        rw [Nat.add_mul] at this; omega
      have hr := run_append_room (P := P) w t ty e i ht hi g n cap cur hg ad 1 c news hl' hnews h1 hroom hfit
      refine ⟨_, _, _, hr, ⟨hlen, .inr ⟨g, cap, _, rfl, hbg, setRow_heap w g cur _ e _ hg, hroom, hcm, ?_, ?_⟩⟩, .inl ⟨rfl, ⟨rfl, rfl, rfl, by simp, fun k _ hk => setRow_other w g k _ (fun e => hk (by simp [e]))⟩⟩⟩
      · simp only [List.size_toArray, List.length_append, List.length_take, List.length_drop, Array.length_toList]
        omega
      · rw [htake, ← hlen]
        exact List.take_left
    · have holds : ∀ j u, xs[j]? = some u → w.cell? ((⟨g, 0, none⟩ : Addr).add j) = some u := hown.cells (g := g) rfl
      have hr := run_append_grow (P := P) w t ty e i z ht hi hz ⟨g, 0, none⟩ n cap xs hown.1 holds ad 1 c news hl' hnews (by omega) (by omega) (growslice_fits (by omega) hbytes)
      have hgr := fresh cap (by omega)
      exact ⟨_, _, _, hr, hgr.1, .inr ⟨rfl, hgr.2⟩⟩

/-- The same, as the walk takes it. -/
theorem wpList_append_two {P : Program} (w : World) {ops : Array Oper} {rest : List Oper} {o : Oper} {a : Act} {Q : Exit → Act → World → Prop} (hgd : o.guard = none) (s x : Operand) (t : TypeId)
    (ho : o.op = .call { callee := .builtin .append, args := #[s, x], argTypes := #[t, t] }) (base : Nat) (e : TypeId) (i : TypeInfo) (z : Value) (size bytes : Nat) (ht : P.underlying t = some (.slice e)) (hi : P.info? e = some i) (hz : i.zero = some z)
    (hsize : i.size = size) (hby : i.bytes = bytes) (hzs : z.cells.size = size) (hsz : 0 < size)
    (v : Value) (n : Nat) (xs : List Value) (hs : a.eval s = v) (hown : w.ownsRow base e size v n xs)
    (ad : Addr) (c : Nat) (news : List Value) (hx : a.eval x = .slice (some ad) 1 c) (hl : news.length = size) (hnews : ∀ j u, news[j]? = some u → w.cell? (ad.add j) = some u) (h1 : ∀ u ∈ news, u.oneCell' = true)
    (h63 : n + 1 ≤ maxLen) (hbytes : (n + 1) * bytes ≤ 140737488355328) (hbase : base ≤ w.heap.size)
    (h : ∀ g cap w', w'.ownsRow base e size (.slice (some ⟨g, 0, none⟩) (n + 1) cap) (n + 1) (xs ++ news) → ((v.ownBlock = some g ∧ w.grownBy w' (some g)) ∨ (g = w.heap.size ∧ w.grownBy w' none)) → wpList P ops Q rest (a.put o.dst (.slice (some ⟨g, 0, none⟩) (n + 1) cap)) w') : wpList P ops Q (o :: rest) a w := by
  refine wpList_plain hgd fun K hK => ?_
  obtain ⟨g, cap, w', hr, h2, h3⟩ := run_append_two (P := P) w base t o.type e i z size bytes ht hi hz hsize hby hzs hsz v n xs hown ad c news hl hnews h1 h63 hbytes hbase
  unfold Oper.wp execOp
  simp only [ho, resolve, invoke, builtin, Sem.run_bind, Sem.run_pure, Result.andThen_ok, List.map_toArray, List.map_cons, List.map_nil, hs, hx, hr]
  exact hK _ _ (h g cap w' h2 h3)

end Go.Proofs.YtbdlgglbcaoakaaGreat
