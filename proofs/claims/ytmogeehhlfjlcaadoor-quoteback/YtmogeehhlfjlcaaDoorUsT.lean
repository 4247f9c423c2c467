/-
  A slice of bytes that reads as a list; a literal row of texts.
-/
import Derived.Test.YtmogeehhlfjlcaaDoorWords
namespace Go.Proofs.YtmogeehhlfjlcaaDoor
open Go.RowKit

/-- the slice at address A holds the bytes ys, in a block below B -/
def Us (w : World) (B : Nat) (A : Option Addr) (ys : List UInt8) : Prop :=
  0 < ys.length → ∃ b o, A = some ⟨b, o, none⟩ ∧ b < B ∧ ∀ j, j < ys.length → w.cell? ⟨b, o + j, none⟩ = some (.int .u8 ((ys[j]?.getD 0).toNat : Int))
theorem Us.low {w w' : World} {B : Nat} {A : Option Addr} {ys : List UInt8} (h : Us w B A ys) (hb : Below B w w') : Us w' B A ys := by
  intro hx
  obtain ⟨b, o, rfl, hl, hc⟩ := h hx
  exact ⟨b, o, rfl, hl, fun j hj => (hb.cell hl).trans (hc j hj)⟩
theorem Us.up {w w' : World} {A : Option Addr} {ys : List UInt8} (h : Us w w.heap.size A ys) (hb : Below w.heap.size w w') : Us w' w'.heap.size A ys := by
  intro hx
  obtain ⟨b, o, rfl, hl, hc⟩ := h hx
  exact ⟨b, o, rfl, Nat.lt_of_lt_of_le hl hb.size, fun j hj => (hb.cell hl).trans (hc j hj)⟩
theorem Us.mono {w : World} {B B' : Nat} {A : Option Addr} {ys : List UInt8} (h : Us w B A ys) (hb : B ≤ B') : Us w B' A ys := by
  intro hx
  obtain ⟨b, o, rfl, hl, hc⟩ := h hx
  exact ⟨b, o, rfl, Nat.lt_of_lt_of_le hl hb, hc⟩

theorem lit_cell {W : World} {g : Nat} {xs : List ByteArray} (h : Box W g 9 (svs xs).toArray) {p : Nat} (hp : p < xs.length) : ∃ x, x ∈ xs ∧ W.cell? ⟨g, p, none⟩ = some (.string x) :=
  ⟨xs[p], List.getElem_mem hp, h.c p (by simp [svs, hp])⟩
end Go.Proofs.YtmogeehhlfjlcaaDoor
