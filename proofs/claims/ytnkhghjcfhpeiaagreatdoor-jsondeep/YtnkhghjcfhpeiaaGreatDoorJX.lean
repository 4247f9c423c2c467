/-
  Values that are deep, and values with many others, while JsonDeep makes them.
-/
import Derived.Test.YtnkhghjcfhpeiaaGreatDoorJL
import Derived.Test.YtnkhghjcfhpeiaaGreatDoorJF
namespace Go.Proofs.YtnkhghjcfhpeiaaGreatDoor
open Go.RowKit

def leafC : List Value := [.int .i64 3, .string ⟨#[]⟩, .slice none 0 0, .slice none 0 0]
def manyC : Nat → List Value | 0 => [] | i + 1 => manyC i ++ leafC
def trueJ : Jv := .mk 3 [] [] []
def manyV : Nat → List Jv | 0 => [] | i + 1 => manyV i ++ [trueJ]
theorem many_jl (W : World) (P : Nat → Prop) : ∀ i : Nat, JL W P (manyV i) (manyC i)
  | 0 => by rw [manyV, manyC, JL]
  | i + 1 => JL.app (many_jl W P i) (jleaf W P 3 [])
theorem many_wt : ∀ i : Nat, wtL (manyV i) = i
  | 0 => by rw [manyV, wtL]
  | i + 1 => by
    rw [manyV, wtL_app, many_wt i]
    rfl
/-- a list of many others, while it is made -/
structure DpL (w W : World) (gv : Nat) (S : Sli) (i : Nat) : Prop where
  below : Below w.heap.size w W
  bx : Box W gv 25 #[.int .i64 6, .string ⟨#[]⟩, .slice none 0 0, .slice S.A S.n S.c]
  row : Row W (gv + 1) 25 4 S (manyC i)
  lo : w.heap.size ≤ gv
/-- a value in its box, its parts behind it -/
structure DpV (w W : World) (gv : Nat) (v : Jv) (S : Sli) : Prop where
  below : Below w.heap.size w W
  bx : Box W gv 25 #[.int .i64 v.k, .string (tb v.t), .slice none 0 0, .slice S.A S.n S.c]
  jv : JV W (fun b => gv + 1 ≤ b) v (jx v ⟨none, 0, 0⟩ S)
  lo : w.heap.size ≤ gv
theorem DpL.up {w W W' : World} {gv i : Nat} {S : Sli} (h : DpL w W gv S i) (hb : Below W.heap.size W W') : DpL w W' gv S i := ⟨bon h.below hb, h.bx.up hb, h.row.up hb, h.lo⟩
theorem DpV.up {w W W' : World} {gv : Nat} {v : Jv} {S : Sli} (h : DpV w W gv v S) (hb : Below W.heap.size W W') : DpV w W' gv v S := ⟨bon h.below hb, h.bx.up hb, h.jv.up hb, h.lo⟩
theorem DpL.app {w W W' : World} {gv i : Nat} {S : Sli} (h : DpL w W gv S i) {A' : Option Addr} {n c' : Nat} (h1 : W'.ownsRow (gv + 1) 25 4 (.slice A' n c') n (manyC i ++ leafC)) (h2 : W.grownBy W' (Value.slice S.A S.n S.c).ownBlock) :
    DpL w (W'.setCell ⟨gv, 3, none⟩ (.slice A' n c')) gv ⟨A', n, c'⟩ (i + 1) ∧ W'.cell? ⟨gv, 3, none⟩ = some (.slice S.A S.n S.c) ∧ W'.frozen? ⟨gv, 3, none⟩ = false := by
  have o1 := h.lo
  have o2 := h.bx.lt
  have hne : ∀ b, b ≤ gv → some b ≠ (Value.slice S.A S.n S.c).ownBlock := fun b hb e => by have := (row_own h.row e).1; omega
  have hbx := grown_box h2 h.bx (hne _ (Nat.le_refl _))
  refine ⟨⟨(grown_base h.row h2 h.below (by omega) (by omega)).setCell (p := ⟨gv, 3, none⟩) o1 _, ?_, rowf (O := ⟨A', n, c'⟩) h1 (p := ⟨gv, 3, none⟩) (by simp only; omega) _, h.lo⟩, hbx.c 3 rfl, hbx.f 3⟩
  have := hbx.set 3 (.slice A' n c')
  simpa using this
theorem DpL.ds {w W : World} {gv i : Nat} {S : Sli} (h : DpL w W gv S i) : DpV w W gv (.mk 6 [] [] (manyV i)) S := by
  refine ⟨h.below, h.bx, ?_, h.lo⟩
  rw [JV]
  have hv := h.row.1
  refine ⟨⟨none, 0, 0⟩, S, manyC i, rfl, ⟨rfl, fun h => absurd h (by simp [svs]), fun _ => rfl, Nat.le_refl _, Nat.zero_le _⟩, row_slp h.row (by rw [hv]) (fun e => ?_), many_jl _ _ _⟩
  rw [e, Nat.zero_mul] at hv
  exact List.eq_nil_of_length_eq_zero hv
theorem DpV.nest {w W : World} {gv : Nat} {v : Jv} {S : Sli} (h : DpV w W gv v S) :
    DpV w (((((W.alloc (.cells #[.int .i64 v.k, .string (tb v.t), .slice none 0 0, .slice S.A S.n S.c] 25)).setCell ⟨gv, 0, none⟩ (.int .i64 6)).setCell ⟨gv, 1, none⟩ (.string ⟨#[]⟩)).setCell ⟨gv, 2, none⟩ (.slice none 0 0)).setCell ⟨gv, 3, none⟩ (.slice (some ⟨W.heap.size, 0, none⟩) 1 1)) gv (.mk 6 [] [] [v]) ⟨some ⟨W.heap.size, 0, none⟩, 1, 1⟩ := by
  have o1 := h.lo
  have o2 := h.bx.lt
  have hb := ba1 W (.cells #[.int .i64 v.k, .string (tb v.t), .slice none 0 0, .slice S.A S.n S.c] 25)
  have bl := Box.new W 25 #[.int .i64 v.k, .string (tb v.t), .slice none 0 0, .slice S.A S.n S.c]
  have h2 := h.up hb
  have bl4 := box_far4 (gr := gv) bl (by omega) (.int .i64 6) (.string ⟨#[]⟩) (.slice none 0 0) (.slice (some ⟨W.heap.size, 0, none⟩) 1 1)
  have b4 := box_set4 h2.bx (.int .i64 6) (.string ⟨#[]⟩) (.slice none 0 0) (.slice (some ⟨W.heap.size, 0, none⟩) 1 1)
  have be := below_set4 h2.below o1 (.int .i64 6) (.string ⟨#[]⟩) (.slice none 0 0) (.slice (some ⟨W.heap.size, 0, none⟩) 1 1)
  refine ⟨be, b4, ?_, o1⟩
  have hP : ∀ b, gv + 1 ≤ b → b ≠ gv := fun b hb => by omega
  have hjv := JV.to (keep_set (g := gv) (i := 3) (u := .slice (some ⟨W.heap.size, 0, none⟩) 1 1) hP) _ _ (JV.to (keep_set (g := gv) (i := 2) (u := .slice none 0 0) hP) _ _ (JV.to (keep_set (g := gv) (i := 1) (u := .string ⟨#[]⟩) hP) _ _ (JV.to (keep_set (g := gv) (i := 0) (u := .int .i64 6) hP) _ _ h2.jv)))
  rw [JV]
  refine ⟨⟨none, 0, 0⟩, ⟨some ⟨W.heap.size, 0, none⟩, 1, 1⟩, [.int .i64 v.k, .string (tb v.t), .slice none 0 0, .slice S.A S.n S.c], rfl, ⟨rfl, fun h => absurd h (by simp [svs]), fun _ => rfl, Nat.le_refl _, Nat.zero_le _⟩, ⟨rfl, fun _ => ⟨W.heap.size, 0, rfl, by omega, bl4.lt, fun j u hj => ?_⟩, fun e => (by cases e), Nat.le_refl _, (by unfold maxLen; simp only; omega)⟩, ?_⟩
  · rw [Nat.zero_add]
    exact bl4.c j (by simpa using hj)
  · rw [JL]
    exact ⟨_, _, _, _, [], rfl, hjv, by rw [JL]⟩
end Go.Proofs.YtnkhghjcfhpeiaaGreatDoor
