/-
  Words for memory and for wheels: when a slice of timers in memory reads as a list, when eight slices read as a wheel, and what survives the steps of a walk.
-/
import Derived.Test.YtncbfkoldllbpaaWm
import Derived.WalkKit
import Derived.WalkSpells
import Derived.WalkLawsBesides
import Derived.Lib.Hide
import Derived.Laws.OwnMore
import Derived.IntWalk
import Derived.BigQuiet
namespace Go.Proofs.Ytncbfkoldllbpaa
open Go.RowKit

theorem ret_bool {a b : Bool} (h : a = b) : Ending.returned (.bool a) = .returned (.bool b) := by rw [h]
theorem ret_int {k : IntKind} {a b : Int} (h : a = b) : Ending.returned (.int k a) = .returned (.int k b) := by rw [h]

theorem bkeep {W w1 : World} (hb : Below W.heap.size W w1) : (∀ b o, b < W.heap.size → w1.cell? ⟨b, o, none⟩ = W.cell? ⟨b, o, none⟩) ∧ (∀ b o, b < W.heap.size → w1.frozen? ⟨b, o, none⟩ = W.frozen? ⟨b, o, none⟩) :=
  ⟨fun b o h => hb.cell (p := ⟨b, o, none⟩) h, fun b o h => hb.frozen (p := ⟨b, o, none⟩) h⟩

theorem ba1 (w : World) (o : Obj) : Below w.heap.size w (w.alloc o) := (Below.refl _ _).alloc (Nat.le_refl _) o
theorem ba2 (w : World) (o o' : Obj) : Below w.heap.size w ((w.alloc o).alloc o') := (ba1 w o).alloc (by simp) o'
theorem ba3 (w : World) (o o' o'' : Obj) : Below w.heap.size w (((w.alloc o).alloc o').alloc o'') := (ba2 w o o').alloc (by simp; omega) o''
theorem bon {w w1 w2 : World} (h : Below w.heap.size w w1) (k : Below w1.heap.size w1 w2) : Below w.heap.size w w2 := h.trans (k.mono h.size)

/-- block g is just the cells cs, none of them frozen -/
def Box (w : World) (g : Nat) (t : TypeId) (cs : Array Value) : Prop := w.heap[g]? = some (.cells cs t (0, 0))
section
variable {w w' : World} {g : Nat} {t : TypeId} {cs : Array Value}
theorem Box.lt (h : Box w g t cs) : g < w.heap.size := (Array.getElem?_eq_some_iff.1 h).1
theorem Box.c (h : Box w g t cs) (i : Nat) {v : Value} (hv : cs[i]? = some v) : w.cell? ⟨g, i, none⟩ = some v := (cell_of_row w g i cs t (0, 0) h).trans hv
theorem Box.f (h : Box w g t cs) (i : Nat) : w.frozen? ⟨g, i, none⟩ = false := by
  unfold Box at h
  simp [World.frozen?, h]
theorem Box.new (w : World) (t : TypeId) (cs : Array Value) : Box (w.alloc (.cells cs t)) w.heap.size t cs := heap_alloc_new w _
theorem Box.mk' (w : World) (t : TypeId) (cs : Array Value) (g : Nat) (hg : w.heap.size = g) : Box (w.alloc (.cells cs t)) g t cs := hg ▸ Box.new w t cs
theorem Box.alloc (h : Box w g t cs) (o : Obj) : Box (w.alloc o) g t cs := (Below.heap_alloc w o g h.lt).trans h
theorem Box.set (h : Box w g t cs) (i : Nat) (u : Value) : Box (w.setCell ⟨g, i, none⟩ u) g t (cs.setIfInBounds i u) := by
  unfold Box at h ⊢
  simp [World.setCell, Array.getElem?_modify, h]
theorem Box.far (h : Box w g t cs) {p : Addr} (hp : g ≠ p.block) (u : Value) : Box (w.setCell p u) g t cs := (Below.heap_setCell w p u g hp).trans h
theorem Box.below {B : Nat} (h : Box w g t cs) (hb : Below B w w') (hg : g < B) : Box w' g t cs := (hb.block g hg).trans h
theorem Box.up (h : Box w g t cs) (hb : Below w.heap.size w w') : Box w' g t cs := h.below hb h.lt
theorem Box.one {x : Value} (h : Box w g t #[x]) : w.cell? ⟨g, 0, none⟩ = some x ∧ w.frozen? ⟨g, 0, none⟩ = false := ⟨h.c 0 rfl, h.f 0⟩
theorem Box.three {x y z : Value} (h : Box w g t #[x, y, z]) : (w.cell? ⟨g, 0, none⟩ = some x ∧ w.cell? ⟨g, 1, none⟩ = some y ∧ w.cell? ⟨g, 2, none⟩ = some z) ∧ w.frozen? ⟨g, 0, none⟩ = false ∧ w.frozen? ⟨g, 1, none⟩ = false ∧ w.frozen? ⟨g, 2, none⟩ = false :=
  ⟨⟨h.c 0 rfl, h.c 1 rfl, h.c 2 rfl⟩, h.f 0, h.f 1, h.f 2⟩
end

theorem Box.set3 {w : World} {g : Nat} {t : TypeId} {x y z : Value} (h : Box w g t #[x, y, z]) (x' y' z' : Value) : Box (((w.setCell ⟨g, 0, none⟩ x').setCell ⟨g, 1, none⟩ y').setCell ⟨g, 2, none⟩ z') g t #[x', y', z'] := by
  simpa using ((h.set 0 x').set 1 y').set 2 z'
theorem Box.far3 {w : World} {g g' : Nat} {t : TypeId} {cs : Array Value} (h : Box w g t cs) (hne : g ≠ g') (x' y' z' : Value) : Box (((w.setCell ⟨g', 0, none⟩ x').setCell ⟨g', 1, none⟩ y').setCell ⟨g', 2, none⟩ z') g t cs :=
  ((h.far hne _).far hne _).far hne _
theorem below_set3 {B : Nat} {a w : World} (h : Below B a w) {g : Nat} (hg : B ≤ g) (x' y' z' : Value) : Below B a (((w.setCell ⟨g, 0, none⟩ x').setCell ⟨g, 1, none⟩ y').setCell ⟨g, 2, none⟩ z') :=
  ((h.setCell (p := ⟨g, 0, none⟩) hg _).setCell (p := ⟨g, 1, none⟩) hg _).setCell (p := ⟨g, 2, none⟩) hg _
theorem size_set3 (w : World) (g : Nat) (x' y' z' : Value) : (((w.setCell ⟨g, 0, none⟩ x').setCell ⟨g, 1, none⟩ y').setCell ⟨g, 2, none⟩ z').heap.size = w.heap.size := by simp [World.setCell]


/-- a slice -/
structure Sli where
  A : Option Addr
  n : Nat
  c : Nat
abbrev Sli.v (s : Sli) : Value := .slice s.A s.n s.c

/-- the cells of a timer -/
def tmc (t : Tm) : List Value := [.int .i64 t.1, .int .i64 t.2]
def tmcs (xs : List Tm) : List Value := xs.flatMap tmc

/-- the slice at address A holds the timers xs -/
def Ts (w : World) (A : Option Addr) (xs : List Tm) : Prop :=
  0 < xs.length → ∃ b o, A = some ⟨b, o, none⟩ ∧ b < w.heap.size ∧ ∀ j, j < xs.length → w.cell? ⟨b, o + j * 2, none⟩ = some (.int .i64 (xs[j]?.getD (0, 0)).1) ∧ w.cell? ⟨b, o + j * 2 + 1, none⟩ = some (.int .i64 (xs[j]?.getD (0, 0)).2)
theorem Ts.nil (w : World) (A : Option Addr) : Ts w A [] := fun h => absurd h (by simp)
theorem Ts.up {w w' : World} {A : Option Addr} {xs : List Tm} (h : Ts w A xs) (hb : Below w.heap.size w w') : Ts w' A xs := by
  intro hx
  obtain ⟨b, o, rfl, hl, hc⟩ := h hx
  refine ⟨b, o, rfl, Nat.lt_of_lt_of_le hl hb.size, fun j hj => ?_⟩
  rw [hb.cell hl, hb.cell hl]
  exact hc j hj

/-- the wheel's value -/
abbrev wv (now : Int) (S : Nat → Sli) : Value := .agg #[.int .i64 now, .slice (S 0).A (S 0).n (S 0).c, .slice (S 1).A (S 1).n (S 1).c, .slice (S 2).A (S 2).n (S 2).c, .slice (S 3).A (S 3).n (S 3).c, .slice (S 4).A (S 4).n (S 4).c, .slice (S 5).A (S 5).n (S 5).c, .slice (S 6).A (S 6).n (S 6).c, .slice (S 7).A (S 7).n (S 7).c]
abbrev wcs (now : Int) (S : Nat → Sli) : Array Value := #[.int .i64 now, .slice (S 0).A (S 0).n (S 0).c, .slice (S 1).A (S 1).n (S 1).c, .slice (S 2).A (S 2).n (S 2).c, .slice (S 3).A (S 3).n (S 3).c, .slice (S 4).A (S 4).n (S 4).c, .slice (S 5).A (S 5).n (S 5).c, .slice (S 6).A (S 6).n (S 6).c, .slice (S 7).A (S 7).n (S 7).c]

/-- eight slices read as the wheel W -/
structure At (w : World) (W : Wl) (S : Nat → Sli) : Prop where
  len : ∀ i, i < 8 → (W.sl i).length = (S i).n
  ts : ∀ i, i < 8 → Ts w (S i).A (W.sl i)
  cap : ∀ i, i < 8 → (S i).A = none → (S i).c = 0
  le : ∀ i, i < 8 → (S i).n ≤ (S i).c ∧ (S i).n ≤ maxLen
theorem At.up {w w' : World} {W : Wl} {S : Nat → Sli} (h : At w W S) (hb : Below w.heap.size w w') : At w' W S := ⟨h.len, fun i hi => (h.ts i hi).up hb, h.cap, h.le⟩

theorem wcs_at {now : Int} {S : Nat → Sli} {i : Nat} (h : i < 8) : (wcs now S)[1 + i]? = some (.slice (S i).A (S i).n (S i).c) := by
  rcases (show i = 0 ∨ i = 1 ∨ i = 2 ∨ i = 3 ∨ i = 4 ∨ i = 5 ∨ i = 6 ∨ i = 7 by omega) with rfl | rfl | rfl | rfl | rfl | rfl | rfl | rfl <;> rfl
theorem Box.slot {w : World} {g : Nat} {now : Int} {S : Nat → Sli} (h : Box w g 25 (wcs now S)) {i : Nat} (hi : i < 8) : w.cell? ⟨g, 1 + i, none⟩ = some (.slice (S i).A (S i).n (S i).c) := h.c _ (wcs_at hi)

/-- the nine cells of a wheel's box -/
theorem Box.nine {w : World} {g : Nat} {now : Int} {S : Nat → Sli} (h : Box w g 25 (wcs now S)) :
    w.cell? ⟨g, 0, none⟩ = some (.int .i64 now) ∧ w.cell? ⟨g, 1, none⟩ = some (.slice (S 0).A (S 0).n (S 0).c) ∧ w.cell? ⟨g, 2, none⟩ = some (.slice (S 1).A (S 1).n (S 1).c) ∧ w.cell? ⟨g, 3, none⟩ = some (.slice (S 2).A (S 2).n (S 2).c) ∧ w.cell? ⟨g, 4, none⟩ = some (.slice (S 3).A (S 3).n (S 3).c) ∧ w.cell? ⟨g, 5, none⟩ = some (.slice (S 4).A (S 4).n (S 4).c) ∧ w.cell? ⟨g, 6, none⟩ = some (.slice (S 5).A (S 5).n (S 5).c) ∧ w.cell? ⟨g, 7, none⟩ = some (.slice (S 6).A (S 6).n (S 6).c) ∧ w.cell? ⟨g, 8, none⟩ = some (.slice (S 7).A (S 7).n (S 7).c) :=
  ⟨h.c 0 rfl, h.c 1 rfl, h.c 2 rfl, h.c 3 rfl, h.c 4 rfl, h.c 5 rfl, h.c 6 rfl, h.c 7 rfl, h.c 8 rfl⟩

/-- the two cells of a timer within its slice -/
theorem Ts.two {w : World} {A : Option Addr} {xs : List Tm} (h : Ts w A xs) {k : Nat} {t : Tm} (ht : xs[k]? = some t) : ∃ b o, A = some ⟨b, o, none⟩ ∧ b < w.heap.size ∧ w.cell? ⟨b, o + k * 2, none⟩ = some (.int .i64 t.1) ∧ w.cell? ⟨b, o + k * 2 + 1, none⟩ = some (.int .i64 t.2) := by
  have hk := (List.getElem?_eq_some_iff.1 ht).1
  obtain ⟨b, o, hA, hb, hc⟩ := h (by omega)
  have := hc k hk
  rw [ht] at this
  exact ⟨b, o, hA, hb, this⟩

end Go.Proofs.Ytncbfkoldllbpaa
