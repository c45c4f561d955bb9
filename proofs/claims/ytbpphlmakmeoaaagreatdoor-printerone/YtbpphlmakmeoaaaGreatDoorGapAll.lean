import Derived.Test.YtbpphlmakmeoaaaGreatDoorLexAll
namespace Go.Proofs.YtbpphlmakmeoaaaGreatDoor
inductive Cut : List UInt8 → Nat → List fw → List (List UInt8) → Prop
 | nil (i : Nat) : Cut [] i [] []
 | blank {c : UInt8} {r : List UInt8} {i : Nat} {ts : List fw} {rs : List (List UInt8)} : gP c = true → Cut r (i + 1) ts rs → Cut (c :: r) i ts rs
 | remark {c : UInt8} {r : List UInt8} {i : Nat} {ts : List fw} {rs : List (List UInt8)} : eP c = 8 → Cut (r.drop (fa gX r)) (i + 1 + fa gX r) ts rs → Cut (c :: r) i ts (r.take (fa gX r) :: rs)
 | tok {c : UInt8} {r : List UInt8} {i : Nat} {ts : List fw} {rs : List (List UInt8)} : gP c = false → eP c ≠ 8 → (one (c :: r)).2.2.1 = 0 → Cut ((c :: r).drop (one (c :: r)).2.1) (i + (one (c :: r)).2.1) ts rs →
     Cut (c :: r) i (jH (one (c :: r)).1 (one (c :: r)).2.1 (c :: r) i :: ts) rs
def zm (kd : Int) (tx : List UInt8) : List UInt8 := if kd = 5 then 34 :: (tx ++ [34]) else tx
end Go.Proofs.YtbpphlmakmeoaaaGreatDoor
namespace Go.Proofs.YtbpphlmakmeoaaaGreatDoor
structure Whole (x : List UInt8) (kd : Nat) : Prop where
 ne : x ≠ []
 ok : (one x).2.2.1 = 0
 kind : (one x).1 = kd
 len : (one x).2.1 = x.length
 blank : gP (x.getD 0 0) = false
 sharp : eP (x.getD 0 0) ≠ 8
def M4 (x : List UInt8) (kd i : Nat) : fw := jH kd x.length x i
end Go.Proofs.YtbpphlmakmeoaaaGreatDoor
namespace Go.Proofs.YtbpphlmakmeoaaaGreatDoor
def N7 (t t' : fw) : Prop := t.kind = t'.kind ∧ t.text = t'.text
def O0 (t : fw) (x : List UInt8) : Prop := Whole x t.kind ∧ t = M4 x t.kind t.place
def bare (ts : List fw) : List (Nat × List UInt8) := ts.map fun t => (t.kind, t.text)
def M6 (n : Nat) : List UInt8 :=
 if n = 0 then [32] else if n = 1 then [10, 9] else if n = 2 then [32, 35, 32, 97, 32, 114, 101, 109, 97, 114, 107, 46, 32, 107, 105, 110, 100, 10] else [32, 32, 13, 10]
def B6 (g : Nat → Nat) : Nat → List fw → List UInt8
 | _, [] => []
 | k, t :: r => zm (t.kind : Int) t.text ++ (M6 (g k) ++ B6 g (k + 1) r)
end Go.Proofs.YtbpphlmakmeoaaaGreatDoor
