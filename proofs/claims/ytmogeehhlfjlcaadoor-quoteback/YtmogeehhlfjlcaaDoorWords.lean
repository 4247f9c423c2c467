/-
  Words for texts and for memory: a block of cells, a slice that reads as a list, and what survives the steps of a walk.
-/
import Derived.Test.YtmogeehhlfjlcaaDoorFm
import Derived.Test.YtmogeehhlfjlcaaDoorProg
import Derived.WalkKit
import Derived.WalkSpells
import Derived.WalkLawsBesides
import Derived.WalkSmall
import Derived.Lib.Hide
import Derived.IntWalk
import Derived.BigQuiet
import Derived.Laws.OwnMore
import Derived.Deep.AppendLies
namespace Go.Proofs.YtmogeehhlfjlcaaDoor
open Go.RowKit

theorem ret_bool {a b : Bool} (h : a = b) : Ending.returned (.bool a) = .returned (.bool b) := by rw [h]

/-- the bytes of a text -/
abbrev dl (s : ByteArray) : Bs := s.data.toList
theorem dl_len (s : ByteArray) : (dl s).length = s.size := Array.length_toList
theorem dl_inj {a b : ByteArray} (h : dl a = dl b) : a = b := by
  cases a; cases b
  simp only [dl, ByteArray.mk.injEq] at h ⊢
  exact Array.toList_inj.1 h
theorem dl_at {s : ByteArray} {k : Nat} (hk : k < s.size) : (dl s)[k]? = some s[k] := by
  rw [Array.getElem?_toList]
  exact Array.getElem?_eq_getElem (xs := s.data) hk
theorem dl_mk (l : Bs) : dl ⟨l.toArray⟩ = l := by simp [dl]
theorem dl_app (a b : ByteArray) : dl (a ++ b) = dl a ++ dl b := by simp [dl]
theorem dl_ext (s : ByteArray) (i j : Nat) : dl (s.extract i j) = ((dl s).take j).drop i := by
  simp only [dl, ByteArray.data_extract, Array.toList_extract, List.extract_eq_take_drop]
  rw [List.drop_take]
theorem dl_nil {s : ByteArray} (h : s.size = 0) : dl s = [] := List.eq_nil_of_length_eq_zero (by rw [dl_len]; exact h)
theorem emp_of {s : ByteArray} (h : s.size = 0) : s = ⟨#[]⟩ := dl_inj (by rw [dl_nil h])
theorem isEmp {s : ByteArray} : s.toList.isEmpty = decide (s.size = 0) := by
  rw [Go.ByteArray.toList_eq]
  by_cases h : s.size = 0
  · rw [decide_eq_true h, show s.data.toList = [] from dl_nil h]
    rfl
  · rw [decide_eq_false h]
    cases hd : s.data.toList with
    | nil => exact absurd (by rw [← dl_len]; rw [show dl s = [] from hd]; rfl) h
    | cons x r => rfl
/-- how long a text is -/
def szOf : Value → Nat
  | .string s => s.size
  | _ => 0

theorem ba1 (w : World) (o : Obj) : Below w.heap.size w (w.alloc o) := (Below.refl _ _).alloc (Nat.le_refl _) o
theorem ba2 (w : World) (o o' : Obj) : Below w.heap.size w ((w.alloc o).alloc o') := (ba1 w o).alloc (by simp) o'
theorem ba3 (w : World) (o o' o'' : Obj) : Below w.heap.size w (((w.alloc o).alloc o').alloc o'') := (ba2 w o o').alloc (by simp; omega) o''
theorem bon {w w1 w2 : World} (h : Below w.heap.size w w1) (k : Below w1.heap.size w1 w2) : Below w.heap.size w w2 := h.trans (k.mono h.size)

/-- block g is just the cells cs, none of them frozen -/
def Box (w : World) (g : Nat) (t : TypeId) (cs : Array Value) : Prop := w.heap[g]? = some (.cells cs t (0, 0))
section
variable {w w' : World} {g : Nat} {t : TypeId} {cs : Array Value}
theorem Box.lt (h : Box w g t cs) : g < w.heap.size := (Array.getElem?_eq_some_iff.1 h).1
theorem Box.c (h : Box w g t cs) (i : Nat) {v : Value} (hv : cs[i]? = some v) : w.cell? ⟨g, i, none⟩ = some v := (cell_of_row w g i cs t (0, 0) h).trans hv
theorem Box.f (h : Box w g t cs) (i : Nat) : w.frozen? ⟨g, i, none⟩ = false := by
  unfold Box at h
  simp [World.frozen?, h]
theorem Box.new (w : World) (t : TypeId) (cs : Array Value) : Box (w.alloc (.cells cs t)) w.heap.size t cs := heap_alloc_new w _
theorem Box.mk' (w : World) (t : TypeId) (cs : Array Value) (g : Nat) (hg : w.heap.size = g) : Box (w.alloc (.cells cs t)) g t cs := hg ▸ Box.new w t cs
theorem Box.alloc (h : Box w g t cs) (o : Obj) : Box (w.alloc o) g t cs := (Below.heap_alloc w o g h.lt).trans h
theorem Box.set (h : Box w g t cs) (i : Nat) (u : Value) : Box (w.setCell ⟨g, i, none⟩ u) g t (cs.setIfInBounds i u) := by
  unfold Box at h ⊢
  simp [World.setCell, Array.getElem?_modify, h]
theorem Box.far (h : Box w g t cs) {p : Addr} (hp : g ≠ p.block) (u : Value) : Box (w.setCell p u) g t cs := (Below.heap_setCell w p u g hp).trans h
theorem Box.below {B : Nat} (h : Box w g t cs) (hb : Below B w w') (hg : g < B) : Box w' g t cs := (hb.block g hg).trans h
theorem Box.up (h : Box w g t cs) (hb : Below w.heap.size w w') : Box w' g t cs := h.below hb h.lt
theorem Box.one {x : Value} (h : Box w g t #[x]) : w.cell? ⟨g, 0, none⟩ = some x ∧ w.frozen? ⟨g, 0, none⟩ = false := ⟨h.c 0 rfl, h.f 0⟩
end

theorem cell_up {X w' : World} {a : Addr} {v : Value} (hb : Below X.heap.size X w') (h : X.cell? a = some v) : w'.cell? a = some v := (hb.cell (World.block_lt_of_cell? X a h)).trans h
/-- a text is handed back -/
def TextEnds (t : Bs) (w : World) (e : Ending) (w' : World) : Prop := ∃ s : ByteArray, e = .returned (.string s) ∧ dl s = t ∧ Below w.heap.size w w'
/-- a bool -/
def BoolEnds (b : Bool) (w : World) (e : Ending) (w' : World) : Prop := e = .returned (.bool b) ∧ Below w.heap.size w w'

/-- a slice's address, length and room -/
structure Sli where
  A : Option Addr
  n : Nat
  c : Nat
abbrev Sli.v (s : Sli) : Value := .slice s.A s.n s.c

/-- the cells at address A read as cs -/
def Rd (w : World) (A : Option Addr) (cs : List Value) : Prop :=
  0 < cs.length → ∃ b o, A = some ⟨b, o, none⟩ ∧ b < w.heap.size ∧ ∀ (j : Nat) u, cs[j]? = some u → w.cell? ⟨b, o + j, none⟩ = some u
theorem Rd.up {w w' : World} {A : Option Addr} {cs : List Value} (h : Rd w A cs) (hb : Below w.heap.size w w') : Rd w' A cs := by
  intro hx
  obtain ⟨b, o, rfl, hl, hc⟩ := h hx
  exact ⟨b, o, rfl, Nat.lt_of_lt_of_le hl hb.size, fun j u hj => (hb.cell hl).trans (hc j u hj)⟩

/-- a row of cells of the call's own, from block B on -/
abbrev Row (w : World) (B : Nat) (e : TypeId) (sz : Nat) (s : Sli) (cs : List Value) : Prop := w.ownsRow B e sz (.slice s.A s.n s.c) s.n cs
section
variable {w w' : World} {B sz : Nat} {e : TypeId} {s : Sli} {cs : List Value}
theorem Row.rd (h : Row w B e sz s cs) (hn : s.n = 0 → cs = []) : Rd w s.A cs := by
  intro hx
  rcases h.2 with ⟨_, h2⟩ | ⟨g, cap, cur, h1, hb, hg, hnc, hm, hcs, hv⟩
  · rw [hn h2] at hx
    exact absurd hx (by simp)
  · simp only [Value.slice.injEq] at h1
    refine ⟨g, 0, h1.1, (Array.getElem?_eq_some_iff.1 hg).1, fun j u hu => ?_⟩
    rw [Nat.zero_add, cell_of_row w g j cur e (0, 0) hg, ← Array.getElem?_toList]
    rw [← hv, List.getElem?_take] at hu
    split at hu
    · exact hu
    · cases hu
theorem Row.keep (h : Row w B e sz s cs) (hk : ∀ (g : Nat) (cur : Array Value), w.heap[g]? = some (.cells cur e (0, 0)) → w'.heap[g]? = w.heap[g]?) : Row w' B e sz s cs := by
  refine ⟨h.1, ?_⟩
  rcases h.2 with hn | ⟨g, cap, cur, e1, hb, hgc, q⟩
  · exact .inl hn
  · exact .inr ⟨g, cap, cur, e1, hb, by rw [hk g cur hgc]; exact hgc, q⟩
theorem Row.up (h : Row w B e sz s cs) (hb : Below w.heap.size w w') : Row w' B e sz s cs := h.keep fun g _ hg => hb.block g (Array.getElem?_eq_some_iff.1 hg).1
end
theorem box_ne {w : World} {p g : Nat} {t e : TypeId} {cs cur : Array Value} (h : Box w p t cs) (hg : w.heap[g]? = some (.cells cur e (0, 0))) (ht : t ≠ e) : g ≠ p := by
  intro he
  subst he
  unfold Box at h
  rw [h] at hg
  simp only [Option.some.injEq, Obj.cells.injEq] at hg
  exact ht hg.2.1
/-- what is no row of that kind stays when the row grows -/
theorem grown_other {w w' : World} {B n sz : Nat} {e t : TypeId} {v : Value} {xs : List Value} (h : w.ownsRow B e sz v n xs) (hg : w.grownBy w' v.ownBlock) {j : Nat} {cs : Array Value} {fz : Nat × Nat} (hj : w.heap[j]? = some (.cells cs t fz)) (ht : t ≠ e) : w'.heap[j]? = w.heap[j]? := by
  refine hg.block j (Array.getElem?_eq_some_iff.1 hj).1 ?_
  intro he
  rcases h.2 with ⟨rfl, _⟩ | ⟨g, cap, cur, rfl, hb, hgc, _⟩
  · cases he
  · have : j = g := Option.some.inj he
    subst this
    rw [hj] at hgc
    simp only [Option.some.injEq, Obj.cells.injEq] at hgc
    exact ht hgc.2.1
theorem grown_base {w w' : World} {B B2 n sz : Nat} {e : TypeId} {v : Value} {xs : List Value} (h : w.ownsRow B2 e sz v n xs) (hg : w.grownBy w' v.ownBlock) {a : World} (hb : Below B a w) (hB : B ≤ B2) (hw : B ≤ w.heap.size) : Below B a w' :=
  hb.grown hg hw fun k hk => by
    rcases h.2 with ⟨rfl, _⟩ | ⟨g, cap, cur, rfl, hb, _⟩
    · cases hk
    · have : g = k := Option.some.inj hk
      omega

/-- texts in a row -/
def svs (xs : List ByteArray) : List Value := xs.map Value.string
theorem svs_one (xs : List ByteArray) : ∀ u ∈ svs xs, u.oneCell' = true := by
  intro u hu
  obtain ⟨x, _, rfl⟩ := List.mem_map.1 hu
  rfl
/-- fields in a row: two cells each -/
abbrev Fd := ByteArray × ByteArray
def fvs (fs : List Fd) : List Value := fs.flatMap fun f => [.string f.1, .string f.2]
theorem fvs_len (xs : List Fd) : (fvs xs).length = xs.length * 2 := by
  induction xs with
  | nil => rfl
  | cons x r ih =>
    show ([Value.string x.1, Value.string x.2] ++ fvs r).length = _
    rw [List.length_append, ih]
    simp
    omega
theorem fvs_app (xs ys : List Fd) : fvs (xs ++ ys) = fvs xs ++ fvs ys := by simp [fvs]
theorem fvs_one (xs : List Fd) : ∀ u ∈ fvs xs, u.oneCell' = true := by
  intro u hu
  simp only [fvs, List.mem_flatMap] at hu
  obtain ⟨t, _, ht⟩ := hu
  simp only [List.mem_cons, List.not_mem_nil, or_false] at ht
  rcases ht with rfl | rfl <;> rfl
theorem fvs_at (xs : List Fd) : ∀ (k : Nat) (t : Fd), xs[k]? = some t → (fvs xs)[k * 2]? = some (.string t.1) ∧ (fvs xs)[k * 2 + 1]? = some (.string t.2) := by
  induction xs with
  | nil => intro k t h; simp at h
  | cons x r ih =>
    intro k t h
    cases k with
    | zero =>
      simp at h
      subst h
      exact ⟨rfl, rfl⟩
    | succ k =>
      have := ih k t (by simpa using h)
      have e : fvs (x :: r) = [Value.string x.1, Value.string x.2] ++ fvs r := rfl
      rw [e, show (k + 1) * 2 = 2 + k * 2 by omega, show 2 + k * 2 + 1 = 2 + (k * 2 + 1) by omega, List.getElem?_append_right (by simp), List.getElem?_append_right (by simp)]
      simpa using this

/-- a slice of texts -/
structure Ss (w : World) (s : Sli) (xs : List ByteArray) : Prop where
  len : xs.length = s.n
  rd : Rd w s.A (svs xs)
  cap : s.A = none → s.c = 0
  le : s.n ≤ s.c ∧ s.c ≤ maxLen
theorem Ss.up {w w' : World} {s : Sli} {xs : List ByteArray} (h : Ss w s xs) (hb : Below w.heap.size w w') : Ss w' s xs := ⟨h.len, h.rd.up hb, h.cap, h.le⟩
theorem Ss.cell {w : World} {s : Sli} {xs : List ByteArray} (h : Ss w s xs) {k : Nat} (hk : k < s.n) : ∃ b o x, s.A = some ⟨b, o, none⟩ ∧ b < w.heap.size ∧ xs[k]? = some x ∧ w.cell? ⟨b, o + k, none⟩ = some (.string x) := by
  have hk' : k < xs.length := by rw [h.len]; exact hk
  obtain ⟨b, o, hA, hb, hc⟩ := h.rd (by unfold svs; rw [List.length_map]; omega)
  have hx : xs[k]? = some xs[k] := List.getElem?_eq_getElem hk'
  exact ⟨b, o, xs[k], hA, hb, hx, hc k _ (by unfold svs; rw [List.getElem?_map, hx]; rfl)⟩
/-- a slice of fields -/
structure Fs (w : World) (s : Sli) (xs : List Fd) : Prop where
  len : xs.length = s.n
  rd : Rd w s.A (fvs xs)
  cap : s.A = none → s.c = 0
  le : s.n ≤ s.c ∧ s.c ≤ maxLen
theorem Fs.up {w w' : World} {s : Sli} {xs : List Fd} (h : Fs w s xs) (hb : Below w.heap.size w w') : Fs w' s xs := ⟨h.len, h.rd.up hb, h.cap, h.le⟩
theorem Fs.cell {w : World} {s : Sli} {xs : List Fd} (h : Fs w s xs) {k : Nat} (hk : k < s.n) : ∃ b o x y, s.A = some ⟨b, o, none⟩ ∧ b < w.heap.size ∧ xs[k]? = some (x, y) ∧ w.cell? ⟨b, o + k * 2, none⟩ = some (.string x) ∧ w.cell? ⟨b, o + k * 2 + 1, none⟩ = some (.string y) := by
  have hk' : k < xs.length := by rw [h.len]; exact hk
  obtain ⟨b, o, hA, hb, hc⟩ := h.rd (by rw [fvs_len]; omega)
  have hx : xs[k]? = some xs[k] := List.getElem?_eq_getElem hk'
  obtain ⟨a, d⟩ := fvs_at xs k _ hx
  exact ⟨b, o, xs[k].1, xs[k].2, hA, hb, hx, hc _ _ a, by rw [Nat.add_assoc]; exact hc _ _ d⟩
theorem Row.ss {w : World} {B : Nat} {s : Sli} {xs : List ByteArray} (h : Row w B 9 1 s (svs xs)) : Ss w s xs where
  len := by have := h.1; simpa [svs] using this
  rd := h.rd fun hn => by have := h.1; rw [hn] at this; exact List.eq_nil_of_length_eq_zero (by simpa using this)
  cap hA := by
    rcases h.2 with ⟨h1, _⟩ | ⟨g, cap, cur, h1, _⟩
    · simp only [Value.slice.injEq] at h1
      exact h1.2.2
    · simp only [Value.slice.injEq] at h1
      rw [h1.1] at hA
      cases hA
  le := by
    rcases h.2 with ⟨h1, h2⟩ | ⟨g, cap, cur, h1, _, _, hnc, hm, _⟩
    · rw [h2]
      simp only [Value.slice.injEq] at h1
      rw [h1.2.2]
      exact ⟨Nat.zero_le _, Nat.zero_le _⟩
    · simp only [Value.slice.injEq] at h1
      rw [h1.2.2]
      exact ⟨hnc, hm⟩
end Go.Proofs.YtmogeehhlfjlcaaDoor
