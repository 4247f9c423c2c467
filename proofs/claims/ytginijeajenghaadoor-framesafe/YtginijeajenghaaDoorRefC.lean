/-
  The walk of the document's own Parse.
-/
import Derived.Test.YtginijeajenghaaDoorRefB
import Derived.Deep.RegionLaw
import Derived.Deep.Upon
import Derived.Deep.DeepCutAuto
import Derived.Lib.IndexLaws
namespace Go.Proofs.YtginijeajenghaaDoor
open Go.RowKit

/-- a field and an error are handed back -/
def ParseEnds (l : Bs) (w : World) (e : Ending) (w' : World) : Prop :=
  ∃ (a b : ByteArray) (c : Int), e = .returned (.tuple #[.agg #[.string a, .string b], .int .i64 c]) ∧ dl a = (parse3 l).1 ∧ dl b = (parse3 l).2.1 ∧ c = (parse3 l).2.2 ∧ Below w.heap.size w w'

theorem cut_len (c : UInt8) (l : Bs) : (befL c l).length ≤ l.length ∧ (aftL c l).length ≤ l.length := by
  refine ⟨bef_len c l, ?_⟩
  unfold aftL
  rw [List.length_drop]
  have := dropWhile_len (· != c) l
  omega
theorem parse_bad {l : Bs} (h : ¬ (l.contains 58 = true ∧ nameB (befL 58 l) = true ∧ valueB (trimL (aftL 58 l)) = true)) : parse3 l = ([], [], 21) := if_neg h

/-- a field's box -/
theorem Box.two {w : World} {g : Nat} {x y : Value} (h : Box w g 32 #[x, y]) : w.cell? ⟨g, 0, none⟩ = some x ∧ w.cell? ⟨g, 1, none⟩ = some y ∧ w.frozen? ⟨g, 0, none⟩ = false ∧ w.frozen? ⟨g, 1, none⟩ = false := ⟨h.c 0 rfl, h.c 1 rfl, h.f 0, h.f 1⟩
theorem Box.set2 {w : World} {g : Nat} {t : TypeId} {x y : Value} (h : Box w g t #[x, y]) (u v : Value) : Box ((w.setCell ⟨g, 0, none⟩ u).setCell ⟨g, 1, none⟩ v) g t #[u, v] := by
  have := (h.set 0 u).set 1 v
  simpa using this
theorem below_set2 {B : Nat} {a w : World} (h : Below B a w) {g : Nat} (hg : B ≤ g) (u v : Value) : Below B a ((w.setCell ⟨g, 0, none⟩ u).setCell ⟨g, 1, none⟩ v) :=
  (h.setCell (p := ⟨g, 0, none⟩) hg _).setCell (p := ⟨g, 1, none⟩) hg _

/-- the field that was made, in its box -/
def RpR (s : ByteArray) (k g : Nat) (w : World) (t : Bs) (p : Value) (W : World) : Prop :=
  ∃ (gf : Nat) (r : ByteArray), p = .pointer (some ⟨gf, 0, none⟩) ∧ Box W gf 32 #[.string (s.extract 0 k), .string r] ∧ dl r = t ∧ Box W g 32 #[.string ⟨#[]⟩, .string ⟨#[]⟩] ∧ Below w.heap.size w W

end Go.Proofs.YtginijeajenghaaDoor
