/-
  Words for memory and for tables: when a slice in memory reads as a list, and what survives the steps of a walk. It is proved here that these words are kept by new blocks, by draws and by calls that turn nothing old.
-/
import Derived.Test.YtkglgbbekmljcaaMath
import Derived.WalkKit
import Derived.WalkSpells
import Derived.WalkLawsBesides
import Derived.Lib.Hide
import Derived.Laws.OwnMore
namespace Go.Proofs.Ytkglgbbekmljcaa
open Go.RowKit

/-- the slice at address A holds the things xs, each as f says -/
def Vs {α : Type} (f : α → Value) (d : α) (w : World) (A : Option Addr) (xs : List α) : Prop :=
  0 < xs.length → ∃ b o, A = some ⟨b, o, none⟩ ∧ b < w.heap.size ∧ ∀ j, j < xs.length → w.cell? ⟨b, o + j, none⟩ = some (f (xs[j]?.getD d))
/-- integers -/
abbrev Is (w : World) (A : Option Addr) (xs : List Int) : Prop := Vs (Value.int .i64) 0 w A xs
/-- bools -/
abbrev Bl (w : World) (A : Option Addr) (xs : List Bool) : Prop := Vs Value.bool false w A xs

section
variable {α : Type} {f : α → Value} {d : α} {w w' : World} {A : Option Addr} {xs : List α}
theorem Vs.nil (w : World) (A : Option Addr) : Vs f d w A [] := fun h => absurd h (by simp)
theorem Vs.keep (h : Vs f d w A xs) (hs : w.heap.size ≤ w'.heap.size) (hk : ∀ p : Addr, p.block < w.heap.size → w'.cell? p = w.cell? p) : Vs f d w' A xs := by
  intro hx
  obtain ⟨b, o, rfl, hb, hc⟩ := h hx
  exact ⟨b, o, rfl, by omega, fun j hj => (hk _ hb).trans (hc j hj)⟩
theorem Vs.up (h : Vs f d w A xs) (hb : Below w.heap.size w w') : Vs f d w' A xs := h.keep hb.size fun _ hp => hb.cell hp
theorem Vs.none_nil (h : Vs f d w none xs) : xs = [] := by
  rcases Nat.eq_zero_or_pos xs.length with h' | h'
  · exact List.eq_nil_of_length_eq_zero h'
  · obtain ⟨b, o, e, _⟩ := h h'
    cases e
end

theorem ret_bool {a b : Bool} (h : a = b) : Ending.returned (.bool a) = .returned (.bool b) := by rw [h]
theorem ret_int {k : IntKind} {a b : Int} (h : a = b) : Ending.returned (.int k a) = .returned (.int k b) := by rw [h]

theorem bkeep {W w1 : World} (hb : Below W.heap.size W w1) : (∀ b o, b < W.heap.size → w1.cell? ⟨b, o, none⟩ = W.cell? ⟨b, o, none⟩) ∧ (∀ b o, b < W.heap.size → w1.frozen? ⟨b, o, none⟩ = W.frozen? ⟨b, o, none⟩) :=
  ⟨fun b o h => hb.cell (p := ⟨b, o, none⟩) h, fun b o h => hb.frozen (p := ⟨b, o, none⟩) h⟩

theorem ba1 (w : World) (o : Obj) : Below w.heap.size w (w.alloc o) := (Below.refl _ _).alloc (Nat.le_refl _) o
theorem ba2 (w : World) (o o' : Obj) : Below w.heap.size w ((w.alloc o).alloc o') := (ba1 w o).alloc (by simp) o'
theorem ba3 (w : World) (o o' o'' : Obj) : Below w.heap.size w (((w.alloc o).alloc o').alloc o'') := (ba2 w o o').alloc (by simp; omega) o''
theorem bon {w w1 w2 : World} (h : Below w.heap.size w w1) (k : Below w1.heap.size w1 w2) : Below w.heap.size w w2 := h.trans (k.mono h.size)

/-- block g is just the cells cs, none of them frozen -/
def Box (w : World) (g : Nat) (t : TypeId) (cs : Array Value) : Prop := w.heap[g]? = some (.cells cs t (0, 0))
section
variable {w w' : World} {g : Nat} {t : TypeId} {cs : Array Value}
theorem Box.lt (h : Box w g t cs) : g < w.heap.size := (Array.getElem?_eq_some_iff.1 h).1
theorem Box.c (h : Box w g t cs) (i : Nat) {v : Value} (hv : cs[i]? = some v) : w.cell? ⟨g, i, none⟩ = some v := (cell_of_row w g i cs t (0, 0) h).trans hv
theorem Box.f (h : Box w g t cs) (i : Nat) : w.frozen? ⟨g, i, none⟩ = false := by
  unfold Box at h
  simp [World.frozen?, h]
theorem Box.new (w : World) (t : TypeId) (cs : Array Value) : Box (w.alloc (.cells cs t)) w.heap.size t cs := heap_alloc_new w _
theorem Box.mk' (w : World) (t : TypeId) (cs : Array Value) (g : Nat) (hg : w.heap.size = g) : Box (w.alloc (.cells cs t)) g t cs := hg ▸ Box.new w t cs
theorem Box.alloc (h : Box w g t cs) (o : Obj) : Box (w.alloc o) g t cs := (Below.heap_alloc w o g h.lt).trans h
theorem Box.set (h : Box w g t cs) (i : Nat) (u : Value) : Box (w.setCell ⟨g, i, none⟩ u) g t (cs.setIfInBounds i u) := by
  unfold Box at h ⊢
  simp [World.setCell, Array.getElem?_modify, h]
theorem Box.far (h : Box w g t cs) {p : Addr} (hp : g ≠ p.block) (u : Value) : Box (w.setCell p u) g t cs := (Below.heap_setCell w p u g hp).trans h
theorem Box.below {B : Nat} (h : Box w g t cs) (hb : Below B w w') (hg : g < B) : Box w' g t cs := (hb.block g hg).trans h
theorem Box.up (h : Box w g t cs) (hb : Below w.heap.size w w') : Box w' g t cs := h.below hb h.lt
theorem Box.one {x : Value} (h : Box w g t #[x]) : w.cell? ⟨g, 0, none⟩ = some x ∧ w.frozen? ⟨g, 0, none⟩ = false := ⟨h.c 0 rfl, h.f 0⟩
theorem Box.three {x y z : Value} (h : Box w g t #[x, y, z]) : (w.cell? ⟨g, 0, none⟩ = some x ∧ w.cell? ⟨g, 1, none⟩ = some y ∧ w.cell? ⟨g, 2, none⟩ = some z) ∧ w.frozen? ⟨g, 0, none⟩ = false ∧ w.frozen? ⟨g, 1, none⟩ = false ∧ w.frozen? ⟨g, 2, none⟩ = false :=
  ⟨⟨h.c 0 rfl, h.c 1 rfl, h.c 2 rfl⟩, h.f 0, h.f 1, h.f 2⟩
end

theorem Box.set3 {w : World} {g : Nat} {t : TypeId} {x y z : Value} (h : Box w g t #[x, y, z]) (x' y' z' : Value) : Box (((w.setCell ⟨g, 0, none⟩ x').setCell ⟨g, 1, none⟩ y').setCell ⟨g, 2, none⟩ z') g t #[x', y', z'] := by
  simpa using ((h.set 0 x').set 1 y').set 2 z'
theorem Box.far3 {w : World} {g g' : Nat} {t : TypeId} {cs : Array Value} (h : Box w g t cs) (hne : g ≠ g') (x' y' z' : Value) : Box (((w.setCell ⟨g', 0, none⟩ x').setCell ⟨g', 1, none⟩ y').setCell ⟨g', 2, none⟩ z') g t cs :=
  ((h.far hne _).far hne _).far hne _
theorem below_set3 {B : Nat} {a w : World} (h : Below B a w) {g : Nat} (hg : B ≤ g) (x' y' z' : Value) : Below B a (((w.setCell ⟨g, 0, none⟩ x').setCell ⟨g, 1, none⟩ y').setCell ⟨g, 2, none⟩ z') :=
  ((h.setCell (p := ⟨g, 0, none⟩) hg _).setCell (p := ⟨g, 1, none⟩) hg _).setCell (p := ⟨g, 2, none⟩) hg _
theorem size_set3 (w : World) (g : Nat) (x' y' z' : Value) : (((w.setCell ⟨g, 0, none⟩ x').setCell ⟨g, 1, none⟩ y').setCell ⟨g, 2, none⟩ z').heap.size = w.heap.size := by simp [World.setCell]

/-- the table's value -/
abbrev tv (Ag : Option Addr) (N cg : Nat) (Ab : Option Addr) (M cb : Nat) (Af : Option Addr) (F cf : Nat) : Value := .agg #[.slice Ag N cg, .slice Ab M cb, .slice Af F cf]

/-- the three slices read as the table T -/
structure At (w : World) (T : Tb) (Ag : Option Addr) (N cg : Nat) (Ab : Option Addr) (M cb : Nat) (Af : Option Addr) (F cf : Nat) : Prop where
  lg : T.gens.length = N
  lb : T.busy.length = M
  lf : T.free.length = F
  g : Is w Ag T.gens
  b : Bl w Ab T.busy
  f : Is w Af T.free
  hN : N ≤ 1000
  hM : M ≤ 1000
  hF : F ≤ 1000
  cg0 : Ag = none → cg = 0
  cb0 : Ab = none → cb = 0
  cf0 : Af = none → cf = 0
  wf : ∀ x ∈ T.free, (Lit.int .i64 x).wf = true

theorem At.up {w w' : World} {T : Tb} {Ag : Option Addr} {N cg : Nat} {Ab : Option Addr} {M cb : Nat} {Af : Option Addr} {F cf : Nat} (h : At w T Ag N cg Ab M cb Af F cf) (hb : Below w.heap.size w w') : At w' T Ag N cg Ab M cb Af F cf :=
  { h with g := h.g.up hb, b := h.b.up hb, f := h.f.up hb }

end Go.Proofs.Ytkglgbbekmljcaa
