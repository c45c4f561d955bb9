/- The program's Share where what sorts the places is known to sort them. -/
import Derived.Test.YthpbadnedhjncaaDoorSortIns
import Derived.Test.YthpbadnedhjncaaDoorByRest
import Derived.Test.YthpbadnedhjncaaDoorGivePlain
namespace Go.Proofs.YthpbadnedhjncaaDoor
open Go.RowKit Go.Lib

/-- The places stand sorted. -/
def Places (r : Nat → Nat) (len : Nat) (ds : List Nat) : Prop := ∃ f : Nat → Nat, Blk r f 0 len ∧ ds = (List.range len).map f

theorem idArr_size (k : Nat) : (idArr k).size = k + 1 := by simp [idArr]

theorem fa_idArr (k i : Nat) (h : i < k + 1) : fa (idArr k) i = i := by
  unfold fa idArr
  rw [getElem!_pos _ i (by simpa using h)]
  simp

/-- What is asked of the sort of k + 1 places. -/
def Sorts (k : Nat) (r : Nat → Nat) : Prop :=
  ∀ (cb : Array Value) (blk cap : Nat) (w0 : World), CmpLays1 Tryd.prog 62 cb encP (cfP (k := k) r) blk 0 (k + 1) w0 → Row1 encP w0 blk 0 (idArr k) →
    Calls Tryd.prog 61 #[.slice (some ⟨blk, 0, none⟩) (k + 1) cap, .func (.func 62) #[] cb] w0 fun e w' => e = .returned (.tuple #[]) ∧ ∃ d' : Array (Fin (k + 1)), Blk r (fa d') 0 (k + 1) ∧ d'.size = k + 1 ∧ SW encP w0 blk 0 d' w'

theorem sorts_small (k : Nat) (hk : k + 1 < 20) (r : Nat → Nat) : Sorts k r := by
  intro cb blk cap w0 L R
  have hsz := idArr_size k
  have h := sortStable_small (cfP r) 62 cb blk cap (idArr k) (idArr k) w0 w0 (enters_of Tryd.func62 (by kernel_rfl) rfl) (by rw [hsz]; exact L) R rfl (SW.start R.hH) (by rw [hsz]; exact hk)
  rw [hsz] at h
  refine h.mono ?_
  rintro e w' ⟨rfl, S⟩
  have hinc : ∀ x y, 0 ≤ x → x < y → y < k + 1 → fa (idArr k) x < fa (idArr k) y := fun x y _ h1 h2 => by
    rw [fa_idArr k x (by omega), fa_idArr k y h2]; exact h1
  obtain ⟨s1, s2, s3⟩ := ins_srt r 0 (k + 1) (idArr k) (Nat.zero_le _) (by rw [hsz]; exact Nat.le_refl _) hinc
  exact ⟨rfl, _, blk_of_id (fun i _ hi => fa_idArr k i hi) s2 s3, by rw [s1, hsz], S⟩

theorem share_sorts (t : Int) (a : Option Addr) (len cap : Nat) (zs : List Int) (w : World) (hl : zs.length = len) (h : Nums .i64 w a zs)
    (HS : ∀ k, k + 1 = len → len ≤ 4096 → Sorts k (fun i => ((rests t zs.sum zs).getD i 0).toNat)) : Calls Tryd.prog 27 #[.int .i64 t, .slice a len cap] w fun e w' => ShareEnds w t zs e w' := by
  have ok : shareErr t zs = 0 → 1 ≤ len ∧ len ≤ 4096 ∧ 1 ≤ zs.sum ∧ (∀ z ∈ zs, fitW z) := by
    intro he
    unfold shareErr at he
    split at he
    · cases he
    · split at he
      · cases he
      · split at he
        · cases he
        · split at he
          · cases he
          · rename_i h1 h2 h3 h4
            have h3' : ∀ z ∈ zs, fitW z := Classical.not_not.1 h3
            have := sum_nonneg zs h3'
            exact ⟨by omega, by omega, by omega, h3'⟩
  have rl : (rests t zs.sum zs).length = len := by unfold rests; rw [List.length_map]; exact hl
  have rpos : 1 ≤ zs.sum → ∀ i, i < len → 0 ≤ (rests t zs.sum zs).getD i 0 := by
    intro hs i hi
    unfold rests
    have : i < zs.length := by omega
    simp only [List.getD, List.getElem?_map, List.getElem?_eq_getElem this, Option.map_some, Option.getD_some]
    exact Int.emod_nonneg _ (by omega)
  refine share_of t a len cap zs w hl h (Places (fun i => ((rests t zs.sum zs).getD i 0).toNat) len) ?_ ?_
  · intro he q c W hq
    obtain ⟨o1, o2, o3, o4⟩ := ok he
    obtain ⟨k, rfl⟩ : ∃ k, len = k + 1 := ⟨len - 1, by omega⟩
    refine (byRest_of o2 (fun i => ((rests t zs.sum zs).getD i 0).toNat) (fun d' => Blk (fun i => ((rests t zs.sum zs).getD i 0).toNat) (fa d') 0 (k + 1)) (HS k rfl o2) q c W (fun i hi => by
      rw [hq i hi, Int.toNat_of_nonneg (rpos o3 i hi)])).mono ?_
    rintro e w' ⟨blk, d', rfl, hB, hs, hH, hle, hbel⟩
    refine ⟨blk, (List.range (k + 1)).map (fa d'), rfl, ⟨fa d', hB, rfl⟩, by simp, ?_, ?_, hle, hbel⟩
    · intro x hx
      simp at hx
      obtain ⟨i, hi, rfl⟩ := hx
      exact (hB.2.1 i (Nat.zero_le _) hi).2
    · intro i hi
      have := (hH i (by rw [hs]; exact hi)).1
      rw [Nat.zero_add] at this
      rw [this]
      simp [List.getD, hi, encP, fa]
  · rintro he ds ⟨f, hB, rfl⟩ hdl
    obtain ⟨o1, o2, o3, o4⟩ := ok he
    have lb := left_bounds t zs o3
    unfold shareOut
    generalize hL : (t - (quots t zs.sum zs).sum).toNat = L
    have hLn : L ≤ len := by omega
    have e := give_bump f (rests t zs.sum zs) (fun i hi => rpos o3 i (by rw [rl] at hi; exact hi)) (by rw [rl]; exact hB) L 0 (quots t zs.sum zs) (by rw [rl]; omega)
    have e2 : ((List.range len).map f).take L = (List.range L).map fun i => f (0 + i) := by
      rw [← List.map_take, List.take_range, Nat.min_eq_left hLn]
      apply List.map_congr_left
      intro i _
      rw [Nat.zero_add]
    rw [e2, ← e]
    rfl

end Go.Proofs.YthpbadnedhjncaaDoor
