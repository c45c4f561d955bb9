import Derived.Test.YtbpphlmakmeoaaaGreatDoorLaid5
import Derived.Test.YtbpphlmakmeoaaaGreatDoorLaid6
import Derived.Test.YtbpphlmakmeoaaaGreatDoorOne6
set_option maxRecDepth 100000
namespace Go.Proofs.YtbpphlmakmeoaaaGreatDoor
open Go.ChangeShapes Go.WideShapes Go.ChangeAt Go.RowKit
open Go.ChangeMaps (open_string shut_string)
namespace PrinterOne
theorem zr (H : Type) (enc : TypeId × Value → H) (W : World) (base : Nat) (args : Array Value) (ds gs : List (DataW H)) (before : List MemPlace)
    (hval : ∀ (j : Nat) t v, Tryz.f7.params[j]? = some t → args[j]? = some v → Value.okWide Tryz.prog W .any base t v)
    (hW : DataW.Whole enc Tryz.prog Tryz.f7.params.toList Rows.printerOneSpec.vars false W args.toList ds gs before)
    (hsz0 : (DataW.weightsEach Tryz.prog (Tryz.f7.params.toList ++ (OpenSpec.ofChange Rows.printerOneSpec).bare.plain.varTypes Tryz.prog) (ds ++ gs)).all (· ≤ reachBytes) = true)
    (hL : laidMetH Tryz.prog Rows.printerOneRow.laid W) :
    Calls Tryz.prog 7 args W fun e W' => ∃ v, e = .returned v ∧ Rows.printerOneSpec.post enc Tryz.prog Tryz.f7 false true false false W args v W' := by
 have hW' := hW
 obtain ⟨p, q, Ab, hV, rfl, _, _⟩ := hW
 have hA : DataW.TrodAll enc Tryz.prog W 0 (fun _ => true) true Tryz.f7.params.toList args.toList ds p := Ab
 rw [Tryz.params7] at hA hval hsz0
 obtain ⟨v0, Ak, d0, Aj, p0, q0, Ag, rfl, rfl, h0, r0⟩ := trodAll_cons hA
 obtain ⟨v1, Ai, d1, Ah, p1, q1, rfl, rfl, rfl, h1, r1⟩ := trodAll_cons r0
 obtain ⟨rfl, rfl, rfl⟩ := trodAll_nil r1
 obtain rfl : args = #[v0, v1] := by cases args; simp_all
 obtain ⟨rfl, rfl⟩ := trodVars_none hV
 obtain ⟨s0, rfl, rfl, rfl, Ae⟩ := open_string Tryz.underlying9 (hval 0 9 v0 rfl rfl) h0
 obtain ⟨s1, rfl, rfl, rfl, Af⟩ := open_string Tryz.underlying9 (hval 1 9 v1 rfl rfl) h1
 have Ac := rR hsz0 (j := 0) (s := s0) rfl rfl
 have Ad := rR hsz0 (j := 1) (s := s1) rfl rfl
 clear Ab
 have T := sN hL
 have TT := tN hL
 have hsl0' : s0.data.toList.length ≤ 140737488355328 := by rw [Sy.str_len]; exact Ac
 have hsl1' : s1.data.toList.length ≤ 140737488355328 := by rw [Sy.str_len]; exact Ad
 have Aa := Sy.one_any W s0.data.toList s1.data.toList hsl0' hsl1' TT T
 rw [← Sy.str_list s0, ← Sy.str_list s1] at Aa
 refine Aa.mono fun e W' ⟨he, bel⟩ => ?_
 subst he
 exact ⟨_, rfl, _, _, _, [], _, [], hW', trodAll_mk1 (shut_bool Tryz.underlying4 _), (trodAll_cons_mk (shut_string Tryz.underlying9 Ae) (trodAll_cons_mk (shut_string Tryz.underlying9 Af) trodAll_mk0)), rfl, bel.frame _, fun h => by cases h⟩
theorem sR (os : Os) : laidMet Tryz.prog Rows.printerOneRow.laid ((lR os).forCall (fun _ _ => 0) ⟨#[], #[.string ByteArray.empty, .string ByteArray.empty], []⟩).memory :=
 laidMet_of_run' 8 (by kernel_rfl) (by kernel_rfl)
theorem K8 (os : Os) {H : Type} (enc : TypeId × Value → H) : ∃ places, DataW.whole enc Tryz.prog ((lR os).forCall (fun _ _ => 0) ⟨#[], #[.string ByteArray.empty, .string ByteArray.empty], []⟩).memory Tryz.f7.params.toList Rows.printerOneSpec.vars false #[Value.string ByteArray.empty, Value.string ByteArray.empty].toList 8 = some ([.lit (.string []), .lit (.string [])], [], places) :=
 ⟨[], by kernel_rfl⟩
theorem J8 (os : Os) (started : os.Started) (H : Type) (enc : TypeId × Value → H) (F : Stop.Interp) :
    ReturnsInHanded {} Tryz.checked os 7 .any ((OpenSpec.ofChange Rows.printerOneSpec).preRow enc Tryz.prog Tryz.f7 Rows.printerOneRow.domain false Rows.printerOneRow.laid) (((OpenSpec.ofChange Rows.printerOneSpec).at F).post enc Tryz.prog Tryz.f7 false true false false) := by
 obtain ⟨Ad, hx⟩ := K8 os enc
 refine returnsInHanded_of_row (C := Tryz.checked) (s := OpenSpec.ofChange Rows.printerOneSpec) own started (by kernel_rfl) Tryz.func7
  (witness_row_at (enc := enc) (C := Tryz.checked) false (lR os) #[.string ByteArray.empty, .string ByteArray.empty] rfl (by kernel_rfl) (by kernel_rfl) (by kernel_rfl)
   (OpenSpec.preRow_of_cond 8 hx (by kernel_rfl) (fun k hk => by cases hk) (by kernel_rfl) (sR os))) ?_
 intro W Aa args ds gs before Ab hW _ _ Ac hL _ _
 exact zr H enc W Aa args ds gs before Ab hW Ac hL
end PrinterOne
end Go.Proofs.YtbpphlmakmeoaaaGreatDoor
