/-
  Parts of a slice of numbers, as equations for the walk.
-/
import Derived.Test.YtkglgbbekmljcaaOnceW
namespace Go.Proofs.Ytkglgbbekmljcaa
open Go.RowKit

theorem el22 : Try.prog.underlying 22 = some (.slice (Try.prog.elem 22)) := by kernel_rfl
theorem size22 (w : World) : (sizeOf (Try.prog.elem 22)).run Try.prog w = .ok 1 w := by kernel_rfl

theorem sl_to (gi L c j : Nat) (hj : j ≤ c) (w : World) : (Instr.slice 22 (.slice (some ⟨gi, 0, none⟩) L c) none (some (.int .i64 (j : Int))) none).run Try.prog w = .ok (.slice (some ⟨gi, 0, none⟩) j c) w := by
  rw [run_slice_h w 22 _ L c el22 .i64 (j : Int) (by omega) (by omega), size22]
  simp only [Result.andThen, sliced, Nat.zero_mul, Int.toNat_natCast, Nat.sub_zero]
  split <;> simp [add_none]

theorem sl_from (gi L c j : Nat) (hj : j < L) (hc : c ≠ j + 1) (w : World) : (Instr.slice 22 (.slice (some ⟨gi, 0, none⟩) L c) (some (.int .i64 ((j : Int) + 1))) none none).run Try.prog w = .ok (.slice (some ⟨gi, j + 1, none⟩) (L - (j + 1)) (c - (j + 1))) w := by
  have e : ((j : Int) + 1).toNat = j + 1 := by omega
  rw [run_slice_l w 22 _ L c el22 .i64 ((j : Int) + 1) (by omega) (by omega), size22]
  simp only [Result.andThen, sliced, e, if_neg hc, Nat.mul_one, Option.map_some, add_none, Nat.zero_add]

theorem sl_from0 (gi L j : Nat) (hj : j < L) (w : World) : (Instr.slice 22 (.slice (some ⟨gi, 0, none⟩) L (j + 1)) (some (.int .i64 ((j : Int) + 1))) none none).run Try.prog w = .ok (.slice (some ⟨gi, 0, none⟩) (L - (j + 1)) 0) w := by
  have e : ((j : Int) + 1).toNat = j + 1 := by omega
  rw [run_slice_l w 22 _ L (j + 1) el22 .i64 ((j : Int) + 1) (by omega) (by omega), size22]
  simp only [Result.andThen, sliced, e, if_true, Nat.sub_self]

theorem sl_from1 (gi j : Nat) (w : World) : (Instr.slice 22 (.slice (some ⟨gi, 0, none⟩) (j + 1) (j + 1)) (some (.int .i64 ((j : Int) + 1))) none none).run Try.prog w = .ok (.slice (some ⟨gi, 0, none⟩) 0 0) w := by
  rw [sl_from0 gi (j + 1) j (by omega)]
  simp

end Go.Proofs.Ytkglgbbekmljcaa
