/-
  An api.Value that came in as an argument, by its struct.
-/
import Derived.Test.YtnkhghjcfhpeiaaGreatDoorJZ
namespace Go.Proofs.YtnkhghjcfhpeiaaGreatDoor
open Go.RowKit Go.ChangeShapes Go.WideShapes
section
variable {H : Type} {enc : TypeId × Value → H} {w : World} {base : Nat} {sp : Nat → Bool} {held : Bool}
set_option maxRecDepth 1000000 in
theorem open_value {R0 : Reach} {b0 fuel : Nat} {v : Value} {x : DataW H × List MemPlace} (hv : Value.okWide Tryz.prog w R0 b0 25 v) (h : DataW.trod enc Tryz.prog w base sp held fuel 25 v.cells.toList = some x) :
    ∃ (q : Jv) (K S : Sli), v = jx q K S ∧ JV w anyB q (jx q K S) ∧ ShJ q := by
  obtain ⟨cs, rfl, _⟩ := okWide_struct Tryz.underlying25 hv
  obtain ⟨q, K, S, hcs, hj, hs⟩ := open_val fuel _ x h
  refine ⟨q, K, S, ?_, hj, hs⟩
  obtain ⟨l⟩ := cs
  have e : l = [.int .i64 q.k, .string (tb q.t), .slice K.A K.n K.c, .slice S.A S.n S.c] := hcs
  rw [e]
end
end Go.Proofs.YtnkhghjcfhpeiaaGreatDoor
