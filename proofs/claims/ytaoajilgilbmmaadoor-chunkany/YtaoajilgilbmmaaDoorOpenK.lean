/-
  Chunks that came in as an argument: their parts.
-/
import Derived.Test.YtaoajilgilbmmaaDoorCkA
import Derived.OpenShut
import Derived.ProofKit
import Derived.ChangeSame
import Derived.Deep.Slices
import Derived.Lib.SmallJoins
import Derived.SizedLaws
namespace Go.Proofs.YtaoajilgilbmmaaDoor
open Go.RowKit Go.ChangeShapes Go.WideShapes

section
variable {H : Type} {enc : TypeId × Value → H} {w : World} {base : Nat} {sp : Nat → Bool} {held : Bool}

theorem cells9 : Tryd.prog.cellsOf 9 = 1 := by kernel_rfl
theorem cells3 : Tryd.prog.cellsOf 3 = 1 := by kernel_rfl
theorem cellsK : Tryd.prog.cellsOf 23 = 4 := by kernel_rfl
/-- a text in memory -/
theorem open_text {fuel : Nat} {cs : List Value} {x : DataW H × List MemPlace} (h : DataW.trod enc Tryd.prog w base sp held fuel 9 cs = some x) : ∃ a : ByteArray, cs = [.string a] ∧ x.1 = .lit (.string a.data.toList) := by
  obtain ⟨s, h1, h2, _⟩ := DataW.trod_string Tryd.underlying9 h
  exact ⟨s, h1, by rw [h2]⟩
/-- a number in memory -/
theorem open_num {fuel : Nat} {cs : List Value} {x : DataW H × List MemPlace} (h : DataW.trod enc Tryd.prog w base sp held fuel 3 cs = some x) : ∃ n : Int, cs = [.int .i64 n] ∧ x.1 = .lit (.int .i64 n) := by
  obtain ⟨n, h1, h2, _⟩ := DataW.trod_int Tryd.underlying3 h
  exact ⟨n, h1, by rw [h2]⟩

set_option maxRecDepth 100000 in
/-- chunks that came in -/
theorem open_ck {R : Reach} {b0 fuel : Nat} {v : Value} {x : DataW H × List MemPlace} (hv : Value.okWide Tryd.prog w R b0 23 v) (h : DataW.trod enc Tryd.prog w base sp held fuel 23 v.cells.toList = some x) :
    ∃ (s l : Int) (ln : ByteArray) (m : Int), v = .agg #[.int .i64 s, .int .i64 l, .string ln, .int .i64 m] ∧ ((x.1.weights Tryd.prog 23).all (· ≤ reachBytes) = true → ln.size ≤ reachBytes) := by
  obtain ⟨cs, rfl, hsz⟩ := okWide_struct Tryd.underlying23 hv
  obtain ⟨l⟩ := cs
  match l, hsz.trans cellsK with
  | [c0, c1, c2, c3], _ =>
    obtain ⟨xs, n, _, hx, _, hlen, hg⟩ := DataW.trod_struct Tryd.underlying23 h
    match xs, hlen with
    | [y0, y1, y2, y3], _ =>
      have g0 : DataW.trod enc Tryd.prog w base sp held n 3 (([c0, c1, c2, c3].drop 0).take (Tryd.prog.cellsOf 3)) = some y0 := hg 0 _ rfl
      rw [cells3] at g0
      replace g0 : DataW.trod enc Tryd.prog w base sp held n 3 [c0] = some y0 := g0
      have g1 : DataW.trod enc Tryd.prog w base sp held n 3 (([c0, c1, c2, c3].drop 1).take (Tryd.prog.cellsOf 3)) = some y1 := hg 1 _ rfl
      rw [cells3] at g1
      replace g1 : DataW.trod enc Tryd.prog w base sp held n 3 [c1] = some y1 := g1
      have g2 : DataW.trod enc Tryd.prog w base sp held n 9 (([c0, c1, c2, c3].drop 2).take (Tryd.prog.cellsOf 9)) = some y2 := hg 2 _ rfl
      rw [cells9] at g2
      replace g2 : DataW.trod enc Tryd.prog w base sp held n 9 [c2] = some y2 := g2
      have g3 : DataW.trod enc Tryd.prog w base sp held n 3 (([c0, c1, c2, c3].drop 3).take (Tryd.prog.cellsOf 3)) = some y3 := hg 3 _ rfl
      rw [cells3] at g3
      replace g3 : DataW.trod enc Tryd.prog w base sp held n 3 [c3] = some y3 := g3
      obtain ⟨s, e0, d0⟩ := open_num g0
      obtain ⟨l, e1, d1⟩ := open_num g1
      obtain ⟨ln, e2, d2⟩ := open_text g2
      obtain ⟨m, e3, d3⟩ := open_num g3
      simp only [List.cons.injEq, and_true] at e0 e1 e2 e3
      subst e0 e1 e2 e3
      refine ⟨s, l, ln, m, rfl, fun hall => ?_⟩
      have hx1 : x.1 = .agg [y0.1, y1.1, y2.1, y3.1] := by rw [hx]; rfl
      have e : x.1.weights Tryd.prog 23 = [ln.data.toList.length] := by
        rw [hx1, d0, d1, d2, d3]
        simp [DataW.weights, DataW.weightsEach, Tryd.underlying23]
      rw [e] at hall
      simpa using hall
end

end Go.Proofs.YtaoajilgilbmmaaDoor
