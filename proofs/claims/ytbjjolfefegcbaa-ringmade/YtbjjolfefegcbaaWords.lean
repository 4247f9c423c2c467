/-
  Words for memory and for rings: when a slice of bytes in memory reads as a list, and what survives the steps of a walk. It is proved here that these words are kept by new blocks, by draws and by calls that turn nothing old.
-/
import Derived.Test.YtbjjolfefegcbaaProg
import Derived.Test.YtbjjolfefegcbaaMath
import Derived.WalkKit
import Derived.WalkSpells
import Derived.WalkLawsBesides
namespace Go.Proofs.Ytbjjolfefegcbaa
open Go.RowKit

/-- a byte as the value that a cell holds -/
def bv (b : UInt8) : Value := .int .u8 b.toNat

/-- the slice at address A holds the bytes xs, in a block below B (an empty one may lie anywhere) -/
def Bs (w : World) (B : Nat) (A : Option Addr) (xs : List UInt8) : Prop :=
  0 < xs.length → ∃ b o, A = some ⟨b, o, none⟩ ∧ b < B ∧ ∀ j, j < xs.length → w.cell? ⟨b, o + j, none⟩ = some (bv (xs[j]?.getD 0))

theorem Bs.nil (w : World) (B : Nat) (A : Option Addr) : Bs w B A [] := fun h => absurd h (by simp)

theorem Bs.keep {w w' : World} {B B' : Nat} {A : Option Addr} {xs : List UInt8} (h : Bs w B A xs) (hB : B ≤ B') (hk : ∀ p : Addr, p.block < B → w'.cell? p = w.cell? p) : Bs w' B' A xs := by
  intro hx
  obtain ⟨b, o, rfl, hb, hc⟩ := h hx
  exact ⟨b, o, rfl, by omega, fun j hj => (hk _ hb).trans (hc j hj)⟩

theorem Bs.below {w w' : World} {B B' : Nat} {A : Option Addr} {xs : List UInt8} (h : Bs w B A xs) (hb : Below B w w') (hB : B ≤ B') : Bs w' B' A xs :=
  h.keep hB fun _ hp => hb.cell hp

theorem Bs.alloc {w : World} {B : Nat} {A : Option Addr} {xs : List UInt8} (h : Bs w B A xs) (hB : B ≤ w.heap.size) (o : Obj) : Bs (w.alloc o) B A xs :=
  h.keep (Nat.le_refl _) fun p hp => World.cell?_alloc_lt w o p (by omega)

theorem ret_bool {a b : Bool} (h : a = b) : Ending.returned (.bool a) = .returned (.bool b) := by rw [h]
theorem ret_int {k : IntKind} {a b : Int} (h : a = b) : Ending.returned (.int k a) = .returned (.int k b) := by rw [h]

/-- is there a ring of that capacity? -/
def okRoom (room : Int) : Bool := decide (1 ≤ room) && decide (room ≤ 4096)

theorem bkeep {W w1 : World} (hb : Below W.heap.size W w1) : (∀ b o, b < W.heap.size → w1.cell? ⟨b, o, none⟩ = W.cell? ⟨b, o, none⟩) ∧ (∀ b o, b < W.heap.size → w1.frozen? ⟨b, o, none⟩ = W.frozen? ⟨b, o, none⟩) :=
  ⟨fun b o h => hb.cell (p := ⟨b, o, none⟩) h, fun b o h => hb.frozen (p := ⟨b, o, none⟩) h⟩

theorem ba1 (w : World) (o : Obj) : Below w.heap.size w (w.alloc o) := (Below.refl _ _).alloc (Nat.le_refl _) o
theorem ba2 (w : World) (o o' : Obj) : Below w.heap.size w ((w.alloc o).alloc o') := (ba1 w o).alloc (by simp) o'
theorem ba3 (w : World) (o o' o'' : Obj) : Below w.heap.size w (((w.alloc o).alloc o').alloc o'') := (ba2 w o o').alloc (by simp; omega) o''
theorem bon {w w1 w2 : World} (h : Below w.heap.size w w1) (k : Below w1.heap.size w1 w2) : Below w.heap.size w w2 := h.trans (k.mono h.size)
theorem Bs.up {w w' : World} {A : Option Addr} {xs : List UInt8} (h : Bs w w.heap.size A xs) (hb : Below w.heap.size w w') : Bs w' w'.heap.size A xs := h.below hb hb.size

/-- block g is just the cells cs, none of them frozen -/
def Box (w : World) (g : Nat) (t : TypeId) (cs : Array Value) : Prop := w.heap[g]? = some (.cells cs t (0, 0))
section
variable {w w' : World} {g : Nat} {t : TypeId} {cs : Array Value}
theorem Box.lt (h : Box w g t cs) : g < w.heap.size := (Array.getElem?_eq_some_iff.1 h).1
theorem Box.c (h : Box w g t cs) (i : Nat) {v : Value} (hv : cs[i]? = some v) : w.cell? ⟨g, i, none⟩ = some v := (cell_of_row w g i cs t (0, 0) h).trans hv
theorem Box.f (h : Box w g t cs) (i : Nat) : w.frozen? ⟨g, i, none⟩ = false := by
  unfold Box at h
  simp [World.frozen?, h]
theorem Box.new (w : World) (t : TypeId) (cs : Array Value) : Box (w.alloc (.cells cs t)) w.heap.size t cs := heap_alloc_new w _
theorem Box.mk' (w : World) (t : TypeId) (cs : Array Value) (g : Nat) (hg : w.heap.size = g) : Box (w.alloc (.cells cs t)) g t cs := hg ▸ Box.new w t cs
theorem Box.alloc (h : Box w g t cs) (o : Obj) : Box (w.alloc o) g t cs := (Below.heap_alloc w o g h.lt).trans h
theorem Box.set (h : Box w g t cs) (i : Nat) (u : Value) : Box (w.setCell ⟨g, i, none⟩ u) g t (cs.setIfInBounds i u) := by
  unfold Box at h ⊢
  simp [World.setCell, Array.getElem?_modify, h]
theorem Box.far (h : Box w g t cs) {p : Addr} (hp : g ≠ p.block) (u : Value) : Box (w.setCell p u) g t cs := (Below.heap_setCell w p u g hp).trans h
theorem Box.below {B : Nat} (h : Box w g t cs) (hb : Below B w w') (hg : g < B) : Box w' g t cs := (hb.block g hg).trans h
theorem Box.up (h : Box w g t cs) (hb : Below w.heap.size w w') : Box w' g t cs := h.below hb h.lt
theorem Box.one {x : Value} (h : Box w g t #[x]) : w.cell? ⟨g, 0, none⟩ = some x ∧ w.frozen? ⟨g, 0, none⟩ = false := ⟨h.c 0 rfl, h.f 0⟩
theorem Box.three {x y z : Value} (h : Box w g t #[x, y, z]) : (w.cell? ⟨g, 0, none⟩ = some x ∧ w.cell? ⟨g, 1, none⟩ = some y ∧ w.cell? ⟨g, 2, none⟩ = some z) ∧ w.frozen? ⟨g, 0, none⟩ = false ∧ w.frozen? ⟨g, 1, none⟩ = false ∧ w.frozen? ⟨g, 2, none⟩ = false :=
  ⟨⟨h.c 0 rfl, h.c 1 rfl, h.c 2 rfl⟩, h.f 0, h.f 1, h.f 2⟩
end

/-- the ring as a value -/
abbrev rv (A : Option Addr) (n c : Nat) (f m : Int) : Value := .agg #[.slice A n c, .int .i64 f, .int .i64 m]

/-- is a ring of that capacity, From and Many valid? -/
def okB (n : Nat) (f m : Int) : Bool := decide (1 ≤ (n : Int)) && decide ((n : Int) ≤ 4096) && decide (0 ≤ f) && decide (f < n) && decide (0 ≤ m) && decide (m ≤ n)

theorem okB_true {n : Nat} {f m : Int} (h : okB n f m = true) : 1 ≤ n ∧ n ≤ 4096 ∧ 0 ≤ f ∧ f < n ∧ 0 ≤ m ∧ m ≤ n := by
  simp [okB] at h; omega
theorem okB_mk {n : Nat} {f m : Int} (h : 1 ≤ n ∧ n ≤ 4096 ∧ 0 ≤ f ∧ f < n ∧ 0 ≤ m ∧ m ≤ n) : okB n f m = true := by
  simp [okB]; omega

set_option maxHeartbeats 400000 in
theorem right_any (A : Option Addr) (n c : Nat) (f m : Int) (w : World) :
    Calls Try.prog 15 #[.agg #[.slice A n c, .int .i64 f, .int .i64 m]] w fun e w' => e = .returned (.bool (okB n f m)) ∧ Below w.heap.size w w' := by
  go_enter Try.func15, Try.ntmps15
  go_wp2
  all_goals
    go_ret
    exact ⟨ret_bool (by rw [Bool.eq_iff_iff]; simp [okB]; omega), (Below.refl _ _).alloc (Nat.le_refl _) _⟩

set_option maxHeartbeats 400000 in
theorem place_any (A : Option Addr) (n c : Nat) (f m i : Int) (w : World) (h0 : 1 ≤ n) (h1 : n ≤ 4096) (h2 : 0 ≤ f) (h3 : f < n) (h4 : 0 ≤ i) (h5 : i ≤ n) :
    Calls Try.prog 24 #[.agg #[.slice A n c, .int .i64 f, .int .i64 m], .int .i64 i] w fun e w' => e = .returned (.int .i64 ((f + i) % n)) ∧ Below w.heap.size w w' := by
  go_enter Try.func24, Try.ntmps24
  go_wp2
  go_ret
  exact ⟨rfl, (Below.refl _ _).alloc (Nat.le_refl _) _⟩

set_option maxHeartbeats 400000 in
theorem parts_any (A : Option Addr) (n c : Nat) (f m : Int) (w : World) :
    Calls Try.prog 25 #[.slice A n c, .int .i64 f, .int .i64 m] w fun e w' => e = .returned (.func (.func 29) #[] #[.pointer (some ⟨w.heap.size + 2, 0, none⟩), .pointer (some ⟨w.heap.size, 0, none⟩), .pointer (some ⟨w.heap.size + 1, 0, none⟩)]) ∧
      w' = ((w.alloc (.cells #[.slice A n c] 22)).alloc (.cells #[.int .i64 f] 3)).alloc (.cells #[.int .i64 m] 3) := by
  go_enter Try.func25, Try.ntmps25
  go_wp2
  go_ret
  exact ⟨rfl, rfl⟩

end Go.Proofs.Ytbjjolfefegcbaa
