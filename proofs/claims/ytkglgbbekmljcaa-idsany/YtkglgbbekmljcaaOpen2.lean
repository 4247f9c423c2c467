/-
  Slices of integers and of bools that came in, as lists.
-/
import Derived.Test.YtkglgbbekmljcaaWords
import Derived.ProofKit
import Derived.OpenShut
import Derived.Deep.Grids
namespace Go.Proofs.Ytkglgbbekmljcaa
open Go.ChangeShapes Go.WideShapes Go.ChangeAt Go.RowKit

theorem is_of_ints {w : World} {a : Addr} {len cap : Nat} {zs : List Int} (hl : len ≤ cap) (hz : zs.length = cap) (hcell : ∀ i, i < zs.length → w.cell? (a.add i) = some (.int .i64 (zs.getD i 0))) (hw : ∀ n ∈ zs, (Lit.int .i64 n).wf = true) :
    ∃ xs : List Int, xs.length = len ∧ Is w (some a) xs ∧ ∀ x ∈ xs, (Lit.int .i64 x).wf = true := by
  refine ⟨zs.take len, by simp; omega, ?_, fun x hx => hw x (List.mem_of_mem_take hx)⟩
  intro hpos
  simp only [List.length_take] at hpos
  obtain ⟨b, off, rfl, hc⟩ := ints_at hcell (by omega)
  refine ⟨b, off, rfl, World.block_lt_of_cell? w _ (hc 0 (by omega)), fun j hj => ?_⟩
  simp only [List.length_take] at hj
  rw [hc j (by omega), List.getElem?_take, if_pos (by omega), List.getD_eq_getElem?_getD]

theorem bl_of_bools {w : World} {a : Addr} {len cap : Nat} {B : Nat → Bool} (hl : len ≤ cap) (hcell : ∀ i, i < cap → w.cell? (a.add i) = some (.bool (B i))) :
    ∃ xs : List Bool, xs.length = len ∧ Bl w (some a) xs := by
  refine ⟨(List.range len).map B, by simp, ?_⟩
  intro hpos
  simp only [List.length_map, List.length_range] at hpos
  obtain ⟨b, off, spot⟩ := a
  have hspot : spot = none := by simpa [Addr.add] using World.cell?_spot (hcell 0 (by omega))
  subst hspot
  have hc : ∀ j, j < cap → w.cell? ⟨b, off + j, none⟩ = some (.bool (B j)) := by
    intro j hj
    have := hcell j hj
    have e : (⟨b, off, none⟩ : Addr).add j = ⟨b, off + j, none⟩ := by unfold Addr.add; split <;> simp_all
    rwa [e] at this
  refine ⟨b, off, rfl, World.block_lt_of_cell? w _ (hc 0 (by omega)), fun j hj => ?_⟩
  simp only [List.length_map, List.length_range] at hj
  rw [hc j (by omega)]
  simp [hj]

end Go.Proofs.Ytkglgbbekmljcaa
