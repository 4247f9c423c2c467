/-
  What the words for IdsOnce give, for the other laws.
-/
import Derived.Test.YtkglgbbekmljcaaOnceW
import Derived.Test.YtkglgbbekmljcaaAwake
namespace Go.Proofs.Ytkglgbbekmljcaa
open Go.RowKit

theorem Inv.sm {n i : Nat} {T : Tb} {all inn : List Int} (h : Inv n i T all inn) : Sm T := by
  obtain ⟨n1, n2, n3⟩ := h.np
  have hl := h.l
  have hg := h.len
  refine ⟨by omega, by omega, by omega, fun x hx => ?_⟩
  have := ok_free h.ok hx
  exact wf_small (by omega) (by omega)

theorem Inv.bound {n i : Nat} {T : Tb} {all inn : List Int} (h : Inv n i T all inn) {x : Int} (hx : x ∈ inn) : 0 ≤ x ∧ x ≤ 9223372036854775807 := by
  obtain ⟨n1, n2, n3⟩ := h.np
  obtain ⟨x1, _, x3⟩ := has_true (h.h x hx)
  rw [h.len] at x3
  refine ⟨x1, ?_⟩
  obtain ⟨_, _, _, o4, _⟩ := ok_true h.ok
  have e0 := Int.emod_nonneg x (show (n : Int) ≠ 0 by omega)
  have e1 := Int.emod_lt_of_pos x (show (0 : Int) < n by omega)
  obtain ⟨k0, k1⟩ := o4 (x % (n : Int)).toNat (by rw [h.len]; omega)
  have hq : gd T.gens (x % (n : Int)).toNat * (n : Int) ≤ 9007199254740992 * 64 := Int.mul_le_mul k1 (by omega) (by omega) (by omega)
  omega

theorem OnceW.inAt {B g : Nat} {w wr : World} {T : Tb} {all inn : List Int} {Ag : Option Addr} {N cg : Nat} {Ab : Option Addr} {M cb : Nat} {Af : Option Addr} {F cf : Nat} {Aa : Option Addr} {La ca : Nat} {Ai : Option Addr} {Li ci : Nat}
    (h : OnceW B g w T all inn Ag N cg Ab M cb Af F cf Aa La ca Ai Li ci wr) {j : Nat} (hj : j < Li) : ∃ gi, Ai = some ⟨gi, 0, none⟩ ∧ gi < wr.heap.size ∧ wr.cell? ⟨gi, j, none⟩ = some (.int .i64 (gd inn j)) ∧ gd inn j ∈ inn := by
  obtain ⟨gi, h1, _, h2, h3⟩ := own_at h.i (by omega)
  have hl : j < inn.length := by rw [h.li]; exact hj
  refine ⟨gi, h1, h2, ?_, ?_⟩
  · rw [(h3 j hj).1, List.getElem?_map, List.getElem?_eq_getElem hl, gd_eq hl]
    rfl
  · rw [gd_eq hl]
    exact List.getElem_mem hl

end Go.Proofs.Ytkglgbbekmljcaa
