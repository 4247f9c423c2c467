/-
  A slice of bytes that came in, as a list of bytes.
-/
import Derived.Test.YtnkhghjcfhpeiaaGreatDoorJWords
import Derived.ProofKit
import Derived.OpenShut
namespace Go.Proofs.YtnkhghjcfhpeiaaGreatDoor
open Go.ChangeShapes Go.WideShapes Go.ChangeAt Go.RowKit

theorem us_of_ints {w : World} {a : Addr} {len cap : Nat} {zs : List Int} (hl : len ≤ cap) (hz : zs.length = cap) (hcell : ∀ i, i < zs.length → w.cell? (a.add i) = some (.int .u8 (zs.getD i 0))) (hw : ∀ n ∈ zs, (Lit.int .u8 n).wf = true) :
    ∃ ys : List UInt8, ys.length = len ∧ Us w w.heap.size (some a) ys := by
  refine ⟨(zs.take len).map (fun n => n.toNat.toUInt8), by simp; omega, ?_⟩
  intro hpos
  simp only [List.length_map, List.length_take] at hpos
  obtain ⟨b, off, rfl, hc⟩ := ints_at hcell (by omega)
  refine ⟨b, off, rfl, ?_, ?_⟩
  · have := World.block_lt_of_cell? w _ (hc 0 (by omega))
    exact this
  · intro j hj
    simp only [List.length_map, List.length_take] at hj
    rw [hc j (by omega)]
    have hm : zs.getD j 0 ∈ zs := by
      rw [List.getD_eq_getElem?_getD, List.getElem?_eq_getElem (by omega)]
      simp
    have hb := bounds_u8 (hw _ hm)
    rw [List.getElem?_map, List.getElem?_take, if_pos (by omega), List.getElem?_eq_getElem (by omega)]
    rw [List.getD_eq_getElem?_getD, List.getElem?_eq_getElem (by omega)] at hb ⊢
    simp only [Option.getD_some, Option.map_some] at hb ⊢
    congr 2
    have : (zs[j].toNat.toUInt8).toNat = zs[j].toNat := by
      rw [Nat.toUInt8, UInt8.toNat_ofNat_of_lt' (by show _ < 256; omega)]
    omega

section
variable {H : Type} {enc : TypeId × Value → H} {w : World} {base : Nat} {sp : Nat → Bool} {held : Bool}
/-- a slice of bytes -/
theorem open_us {fuel : Nat} {a1 : Option Addr} {len1 cap1 : Nat} {x : DataW H × List MemPlace} (hf : DataW.trod enc Tryz.prog w base (fun _ => true) held fuel 31 [.slice a1 len1 cap1] = some x) : ∃ ys : List UInt8, ys.length = len1 ∧ Us w w.heap.size a1 ys ∧ len1 ≤ maxLen := by
  rcases open_ints Tryz.underlying31 Tryz.underlying5 (by kernel_rfl) hf with ⟨hcs, _⟩ | ⟨x, l, c, zs, hcs, _, hl, hm, hz, _, hcell, hwz⟩
  · simp at hcs
    obtain ⟨rfl, rfl, rfl⟩ := hcs
    exact ⟨[], rfl, fun h => absurd h (by simp), Nat.zero_le _⟩
  · simp at hcs
    obtain ⟨rfl, rfl, rfl⟩ := hcs
    obtain ⟨ys, h1, h2⟩ := us_of_ints hl (by simpa using hz) hcell hwz
    exact ⟨ys, h1, h2, Nat.le_trans hl hm⟩
end

end Go.Proofs.YtnkhghjcfhpeiaaGreatDoor
