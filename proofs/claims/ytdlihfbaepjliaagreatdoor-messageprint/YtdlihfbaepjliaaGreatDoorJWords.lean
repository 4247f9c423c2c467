/-
  Words for texts and for memory: a block of cells, a slice that reads as a list, and what survives the steps of a walk.
-/
import Derived.Test.YtdlihfbaepjliaaGreatDoorFm
import Derived.Lib.SlTrimSet
import Derived.WalkKit
import Derived.Lib.Split
import Derived.WalkSpells
import Derived.WalkLawsBesides
import Derived.WalkSmall
import Derived.Lib.Hide
import Derived.IntWalk
import Derived.BigQuiet
import Derived.Laws.OwnMore
import Derived.Deep.AppendLies
import Derived.Test.YtdlihfbaepjliaaGreatDoorProg
namespace Go.Proofs.YtdlihfbaepjliaaGreatDoor
open Go.RowKit

theorem ret_bool {a b : Bool} (h : a = b) : Ending.returned (.bool a) = .returned (.bool b) := by rw [h]

/-- the bytes of a text -/
abbrev dl (s : ByteArray) : Bs := s.data.toList
theorem dl_len (s : ByteArray) : (dl s).length = s.size := Array.length_toList
theorem dl_inj {a b : ByteArray} (h : dl a = dl b) : a = b := by
  cases a; cases b
  simp only [dl, ByteArray.mk.injEq] at h ⊢
  exact Array.toList_inj.1 h
theorem dl_at {s : ByteArray} {k : Nat} (hk : k < s.size) : (dl s)[k]? = some s[k] := by
  rw [Array.getElem?_toList]
  exact Array.getElem?_eq_getElem (xs := s.data) hk
theorem dl_mk (l : Bs) : dl ⟨l.toArray⟩ = l := by simp [dl]
theorem dl_app (a b : ByteArray) : dl (a ++ b) = dl a ++ dl b := by simp [dl]
theorem dl_ext (s : ByteArray) (i j : Nat) : dl (s.extract i j) = ((dl s).take j).drop i := by
  simp only [dl, ByteArray.data_extract, Array.toList_extract, List.extract_eq_take_drop]
  rw [List.drop_take]
theorem dl_nil {s : ByteArray} (h : s.size = 0) : dl s = [] := List.eq_nil_of_length_eq_zero (by rw [dl_len]; exact h)
theorem emp_of {s : ByteArray} (h : s.size = 0) : s = ⟨#[]⟩ := dl_inj (by rw [dl_nil h])
theorem isEmp {s : ByteArray} : s.toList.isEmpty = decide (s.size = 0) := by
  rw [Go.ByteArray.toList_eq]
  by_cases h : s.size = 0
  · rw [decide_eq_true h, show s.data.toList = [] from dl_nil h]
    rfl
  · rw [decide_eq_false h]
    cases hd : s.data.toList with
    | nil => exact absurd (by rw [← dl_len]; rw [show dl s = [] from hd]; rfl) h
    | cons x r => rfl
/-- how long a text is -/
def szOf : Value → Nat
  | .string s => s.size
  | _ => 0

theorem ba1 (w : World) (o : Obj) : Below w.heap.size w (w.alloc o) := (Below.refl _ _).alloc (Nat.le_refl _) o
theorem ba2 (w : World) (o o' : Obj) : Below w.heap.size w ((w.alloc o).alloc o') := (ba1 w o).alloc (by simp) o'
theorem ba3 (w : World) (o o' o'' : Obj) : Below w.heap.size w (((w.alloc o).alloc o').alloc o'') := (ba2 w o o').alloc (by simp; omega) o''
theorem bon {w w1 w2 : World} (h : Below w.heap.size w w1) (k : Below w1.heap.size w1 w2) : Below w.heap.size w w2 := h.trans (k.mono h.size)

/-- block g is just the cells cs, none of them frozen -/
def Box (w : World) (g : Nat) (t : TypeId) (cs : Array Value) : Prop := w.heap[g]? = some (.cells cs t (0, 0))
section
variable {w w' : World} {g : Nat} {t : TypeId} {cs : Array Value}
theorem Box.lt (h : Box w g t cs) : g < w.heap.size := (Array.getElem?_eq_some_iff.1 h).1
theorem Box.c (h : Box w g t cs) (i : Nat) {v : Value} (hv : cs[i]? = some v) : w.cell? ⟨g, i, none⟩ = some v := (cell_of_row w g i cs t (0, 0) h).trans hv
theorem Box.f (h : Box w g t cs) (i : Nat) : w.frozen? ⟨g, i, none⟩ = false := by
  unfold Box at h
  simp [World.frozen?, h]
theorem Box.new (w : World) (t : TypeId) (cs : Array Value) : Box (w.alloc (.cells cs t)) w.heap.size t cs := heap_alloc_new w _
theorem Box.mk' (w : World) (t : TypeId) (cs : Array Value) (g : Nat) (hg : w.heap.size = g) : Box (w.alloc (.cells cs t)) g t cs := hg ▸ Box.new w t cs
theorem Box.alloc (h : Box w g t cs) (o : Obj) : Box (w.alloc o) g t cs := (Below.heap_alloc w o g h.lt).trans h
theorem Box.set (h : Box w g t cs) (i : Nat) (u : Value) : Box (w.setCell ⟨g, i, none⟩ u) g t (cs.setIfInBounds i u) := by
  unfold Box at h ⊢
  simp [World.setCell, Array.getElem?_modify, h]
theorem Box.far (h : Box w g t cs) {p : Addr} (hp : g ≠ p.block) (u : Value) : Box (w.setCell p u) g t cs := (Below.heap_setCell w p u g hp).trans h
theorem Box.below {B : Nat} (h : Box w g t cs) (hb : Below B w w') (hg : g < B) : Box w' g t cs := (hb.block g hg).trans h
theorem Box.up (h : Box w g t cs) (hb : Below w.heap.size w w') : Box w' g t cs := h.below hb h.lt
theorem Box.one {x : Value} (h : Box w g t #[x]) : w.cell? ⟨g, 0, none⟩ = some x ∧ w.frozen? ⟨g, 0, none⟩ = false := ⟨h.c 0 rfl, h.f 0⟩
end

theorem cell_up {X w' : World} {a : Addr} {v : Value} (hb : Below X.heap.size X w') (h : X.cell? a = some v) : w'.cell? a = some v := (hb.cell (World.block_lt_of_cell? X a h)).trans h
/-- a text is handed back -/
def TextEnds (t : Bs) (w : World) (e : Ending) (w' : World) : Prop := ∃ s : ByteArray, e = .returned (.string s) ∧ dl s = t ∧ Below w.heap.size w w'
/-- a bool -/
def BoolEnds (b : Bool) (w : World) (e : Ending) (w' : World) : Prop := e = .returned (.bool b) ∧ Below w.heap.size w w'

/-- a slice's address, length and room -/
structure Sli where
  A : Option Addr
  n : Nat
  c : Nat
abbrev Sli.v (s : Sli) : Value := .slice s.A s.n s.c

/-- the cells at address A read as cs -/
def Rd (w : World) (A : Option Addr) (cs : List Value) : Prop :=
  0 < cs.length → ∃ b o, A = some ⟨b, o, none⟩ ∧ b < w.heap.size ∧ ∀ (j : Nat) u, cs[j]? = some u → w.cell? ⟨b, o + j, none⟩ = some u
theorem Rd.up {w w' : World} {A : Option Addr} {cs : List Value} (h : Rd w A cs) (hb : Below w.heap.size w w') : Rd w' A cs := by
  intro hx
  obtain ⟨b, o, rfl, hl, hc⟩ := h hx
  exact ⟨b, o, rfl, Nat.lt_of_lt_of_le hl hb.size, fun j u hj => (hb.cell hl).trans (hc j u hj)⟩

/-- a row of cells of the call's own, from block B on -/
abbrev Row (w : World) (B : Nat) (e : TypeId) (sz : Nat) (s : Sli) (cs : List Value) : Prop := w.ownsRow B e sz (.slice s.A s.n s.c) s.n cs
section
variable {w w' : World} {B sz : Nat} {e : TypeId} {s : Sli} {cs : List Value}
theorem Row.rd (h : Row w B e sz s cs) (hn : s.n = 0 → cs = []) : Rd w s.A cs := by
  intro hx
  rcases h.2 with ⟨_, h2⟩ | ⟨g, cap, cur, h1, hb, hg, hnc, hm, hcs, hv⟩
  · rw [hn h2] at hx
    exact absurd hx (by simp)
  · simp only [Value.slice.injEq] at h1
    refine ⟨g, 0, h1.1, (Array.getElem?_eq_some_iff.1 hg).1, fun j u hu => ?_⟩
    rw [Nat.zero_add, cell_of_row w g j cur e (0, 0) hg, ← Array.getElem?_toList]
    rw [← hv, List.getElem?_take] at hu
    split at hu
    · exact hu
    · cases hu
theorem Row.keep (h : Row w B e sz s cs) (hk : ∀ (g : Nat) (cur : Array Value), w.heap[g]? = some (.cells cur e (0, 0)) → w'.heap[g]? = w.heap[g]?) : Row w' B e sz s cs := by
  refine ⟨h.1, ?_⟩
  rcases h.2 with hn | ⟨g, cap, cur, e1, hb, hgc, q⟩
  · exact .inl hn
  · exact .inr ⟨g, cap, cur, e1, hb, by rw [hk g cur hgc]; exact hgc, q⟩
theorem Row.up (h : Row w B e sz s cs) (hb : Below w.heap.size w w') : Row w' B e sz s cs := h.keep fun g _ hg => hb.block g (Array.getElem?_eq_some_iff.1 hg).1
end
theorem box_ne {w : World} {p g : Nat} {t e : TypeId} {cs cur : Array Value} (h : Box w p t cs) (hg : w.heap[g]? = some (.cells cur e (0, 0))) (ht : t ≠ e) : g ≠ p := by
  intro he
  subst he
  unfold Box at h
  rw [h] at hg
  simp only [Option.some.injEq, Obj.cells.injEq] at hg
  exact ht hg.2.1
/-- what is no row of that kind stays when the row grows -/
theorem grown_other {w w' : World} {B n sz : Nat} {e t : TypeId} {v : Value} {xs : List Value} (h : w.ownsRow B e sz v n xs) (hg : w.grownBy w' v.ownBlock) {j : Nat} {cs : Array Value} {fz : Nat × Nat} (hj : w.heap[j]? = some (.cells cs t fz)) (ht : t ≠ e) : w'.heap[j]? = w.heap[j]? := by
  refine hg.block j (Array.getElem?_eq_some_iff.1 hj).1 ?_
  intro he
  rcases h.2 with ⟨rfl, _⟩ | ⟨g, cap, cur, rfl, hb, hgc, _⟩
  · cases he
  · have : j = g := Option.some.inj he
    subst this
    rw [hj] at hgc
    simp only [Option.some.injEq, Obj.cells.injEq] at hgc
    exact ht hgc.2.1
theorem grown_base {w w' : World} {B B2 n sz : Nat} {e : TypeId} {v : Value} {xs : List Value} (h : w.ownsRow B2 e sz v n xs) (hg : w.grownBy w' v.ownBlock) {a : World} (hb : Below B a w) (hB : B ≤ B2) (hw : B ≤ w.heap.size) : Below B a w' :=
  hb.grown hg hw fun k hk => by
    rcases h.2 with ⟨rfl, _⟩ | ⟨g, cap, cur, rfl, hb, _⟩
    · cases hk
    · have : g = k := Option.some.inj hk
      omega

/-- texts in a row -/
def svs (xs : List ByteArray) : List Value := xs.map Value.string
theorem svs_one (xs : List ByteArray) : ∀ u ∈ svs xs, u.oneCell' = true := by
  intro u hu
  obtain ⟨x, _, rfl⟩ := List.mem_map.1 hu
  rfl
/-- fields in a row: two cells each -/
abbrev Fd := ByteArray × ByteArray
def fvs (fs : List Fd) : List Value := fs.flatMap fun f => [.string f.1, .string f.2]
theorem fvs_len (xs : List Fd) : (fvs xs).length = xs.length * 2 := by
  induction xs with
  | nil => rfl
  | cons x r ih =>
    show ([Value.string x.1, Value.string x.2] ++ fvs r).length = _
    rw [List.length_append, ih]
    simp
    omega
theorem fvs_app (xs ys : List Fd) : fvs (xs ++ ys) = fvs xs ++ fvs ys := by simp [fvs]
theorem fvs_one (xs : List Fd) : ∀ u ∈ fvs xs, u.oneCell' = true := by
  intro u hu
  simp only [fvs, List.mem_flatMap] at hu
  obtain ⟨t, _, ht⟩ := hu
  simp only [List.mem_cons, List.not_mem_nil, or_false] at ht
  rcases ht with rfl | rfl <;> rfl
theorem fvs_at (xs : List Fd) : ∀ (k : Nat) (t : Fd), xs[k]? = some t → (fvs xs)[k * 2]? = some (.string t.1) ∧ (fvs xs)[k * 2 + 1]? = some (.string t.2) := by
  induction xs with
  | nil => intro k t h; simp at h
  | cons x r ih =>
    intro k t h
    cases k with
    | zero =>
      simp at h
      subst h
      exact ⟨rfl, rfl⟩
    | succ k =>
      have := ih k t (by simpa using h)
      have e : fvs (x :: r) = [Value.string x.1, Value.string x.2] ++ fvs r := rfl
      rw [e, show (k + 1) * 2 = 2 + k * 2 by omega, show 2 + k * 2 + 1 = 2 + (k * 2 + 1) by omega, List.getElem?_append_right (by simp), List.getElem?_append_right (by simp)]
      simpa using this

/-- a slice of texts -/
structure Ss (w : World) (s : Sli) (xs : List ByteArray) : Prop where
  len : xs.length = s.n
  rd : Rd w s.A (svs xs)
  cap : s.A = none → s.c = 0
  le : s.n ≤ s.c ∧ s.c ≤ maxLen
theorem Ss.up {w w' : World} {s : Sli} {xs : List ByteArray} (h : Ss w s xs) (hb : Below w.heap.size w w') : Ss w' s xs := ⟨h.len, h.rd.up hb, h.cap, h.le⟩
theorem Ss.cell {w : World} {s : Sli} {xs : List ByteArray} (h : Ss w s xs) {k : Nat} (hk : k < s.n) : ∃ b o x, s.A = some ⟨b, o, none⟩ ∧ b < w.heap.size ∧ xs[k]? = some x ∧ w.cell? ⟨b, o + k, none⟩ = some (.string x) := by
  have hk' : k < xs.length := by rw [h.len]; exact hk
  obtain ⟨b, o, hA, hb, hc⟩ := h.rd (by unfold svs; rw [List.length_map]; omega)
  have hx : xs[k]? = some xs[k] := List.getElem?_eq_getElem hk'
  exact ⟨b, o, xs[k], hA, hb, hx, hc k _ (by unfold svs; rw [List.getElem?_map, hx]; rfl)⟩
/-- a slice of fields -/
structure Fs (w : World) (s : Sli) (xs : List Fd) : Prop where
  len : xs.length = s.n
  rd : Rd w s.A (fvs xs)
  cap : s.A = none → s.c = 0
  le : s.n ≤ s.c ∧ s.c ≤ maxLen
theorem Fs.up {w w' : World} {s : Sli} {xs : List Fd} (h : Fs w s xs) (hb : Below w.heap.size w w') : Fs w' s xs := ⟨h.len, h.rd.up hb, h.cap, h.le⟩
theorem Fs.cell {w : World} {s : Sli} {xs : List Fd} (h : Fs w s xs) {k : Nat} (hk : k < s.n) : ∃ b o x y, s.A = some ⟨b, o, none⟩ ∧ b < w.heap.size ∧ xs[k]? = some (x, y) ∧ w.cell? ⟨b, o + k * 2, none⟩ = some (.string x) ∧ w.cell? ⟨b, o + k * 2 + 1, none⟩ = some (.string y) := by
  have hk' : k < xs.length := by rw [h.len]; exact hk
  obtain ⟨b, o, hA, hb, hc⟩ := h.rd (by rw [fvs_len]; omega)
  have hx : xs[k]? = some xs[k] := List.getElem?_eq_getElem hk'
  obtain ⟨a, d⟩ := fvs_at xs k _ hx
  exact ⟨b, o, xs[k].1, xs[k].2, hA, hb, hx, hc _ _ a, by rw [Nat.add_assoc]; exact hc _ _ d⟩
theorem Row.ss {w : World} {B : Nat} {s : Sli} {xs : List ByteArray} (h : Row w B 9 1 s (svs xs)) : Ss w s xs where
  len := by have := h.1; simpa [svs] using this
  rd := h.rd fun hn => by have := h.1; rw [hn] at this; exact List.eq_nil_of_length_eq_zero (by simpa using this)
  cap hA := by
    rcases h.2 with ⟨h1, _⟩ | ⟨g, cap, cur, h1, _⟩
    · simp only [Value.slice.injEq] at h1
      exact h1.2.2
    · simp only [Value.slice.injEq] at h1
      rw [h1.1] at hA
      cases hA
  le := by
    rcases h.2 with ⟨h1, h2⟩ | ⟨g, cap, cur, h1, _, _, hnc, hm, _⟩
    · rw [h2]
      simp only [Value.slice.injEq] at h1
      rw [h1.2.2]
      exact ⟨Nat.zero_le _, Nat.zero_le _⟩
    · simp only [Value.slice.injEq] at h1
      rw [h1.2.2]
      exact ⟨hnc, hm⟩
theorem Row.fs {w : World} {B : Nat} {s : Sli} {xs : List Fd} (h : Row w B 40 2 s (fvs xs)) : Fs w s xs where
  len := by have := h.1; rw [fvs_len] at this; omega
  rd := h.rd fun hn => by have := h.1; rw [hn] at this; exact List.eq_nil_of_length_eq_zero (by simpa using this)
  cap hA := by
    rcases h.2 with ⟨h1, _⟩ | ⟨g, cap, cur, h1, _⟩
    · simp only [Value.slice.injEq] at h1
      exact h1.2.2
    · simp only [Value.slice.injEq] at h1
      rw [h1.1] at hA
      cases hA
  le := by
    rcases h.2 with ⟨h1, h2⟩ | ⟨g, cap, cur, h1, _, _, hnc, hm, _⟩
    · rw [h2]
      simp only [Value.slice.injEq] at h1
      rw [h1.2.2]
      exact ⟨Nat.zero_le _, Nat.zero_le _⟩
    · simp only [Value.slice.injEq] at h1
      rw [h1.2.2]
      exact ⟨hnc, hm⟩

end Go.Proofs.YtdlihfbaepjliaaGreatDoor

/-
  The walks of the document's own calls on texts: tchar, Name, blank, Trim, Lower, Value.
-/
namespace Go.Proofs.YtdlihfbaepjliaaGreatDoor
open Go.RowKit

theorem marks_iff (c : UInt8) : marks.contains c = true ↔ ∃ k, k < 15 ∧ ((⟨#[33, 35, 36, 37, 38, 39, 42, 43, 45, 46, 94, 95, 96, 124, 126]⟩ : ByteArray).data[k]?.getD 0) = c := by
  constructor
  · intro h
    rw [List.contains_iff_mem] at h
    obtain ⟨k, hk, rfl⟩ := List.mem_iff_getElem.1 h
    refine ⟨k, by simpa [marks] using hk, ?_⟩
    have : ∀ k : Fin 15, ((⟨#[33, 35, 36, 37, 38, 39, 42, 43, 45, 46, 94, 95, 96, 124, 126]⟩ : ByteArray).data[k.1]?.getD 0) = marks[k.1]'(k.2) := by decide
    exact this ⟨k, by simpa [marks] using hk⟩
  · rintro ⟨k, hk, rfl⟩
    rw [List.contains_iff_mem]
    have : ∀ k : Fin 15, ((⟨#[33, 35, 36, 37, 38, 39, 42, 43, 45, 46, 94, 95, 96, 124, 126]⟩ : ByteArray).data[k.1]?.getD 0) ∈ marks := by decide
    exact this ⟨k, hk⟩

theorem dl_getD {s : ByteArray} {k : Nat} (hk : k < s.size) : s.data[k]?.getD 0 = s[k] := by
  rw [Array.getElem?_eq_getElem (xs := s.data) hk]
  rfl
theorem getD_eq {s : ByteArray} {k n : Nat} {c : UInt8} (hk : k < s.size) (h : (((s[k].toNat : Nat) : Int) == (n : Int)) = true) (hn : c.toNat = n) : s.data[k]?.getD 0 = c := by
  rw [dl_getD hk]
  rw [beq_iff_eq] at h
  exact UInt8.toNat_inj.1 (by omega)
theorem getD_ne {s : ByteArray} {k n : Nat} {c : UInt8} (hk : k < s.size) (h : (((s[k].toNat : Nat) : Int) == (n : Int)) = false) (hn : c.toNat = n) : s.data[k]?.getD 0 ≠ c := by
  rw [dl_getD hk]
  rw [beq_eq_false_iff_ne] at h
  intro he
  rw [he] at h
  omega
theorem all_no {s : ByteArray} {k : Nat} (h : (dl s)[k]?.all nameC = false) : nameB (dl s) = false := by
  cases hx : (dl s)[k]? with
  | none => rw [hx] at h; cases h
  | some x =>
    rw [hx] at h
    have hm := List.mem_of_getElem? hx
    have : (dl s).all nameC = false := by
      rw [List.all_eq_false]
      exact ⟨x, hm, by simpa using h⟩
    rw [nameB, this, Bool.and_false]
theorem all_yes {s : ByteArray} {f : UInt8 → Bool} (h : ∀ j, j < s.size → (dl s)[j]?.all f = true) : (dl s).all f = true := by
  rw [List.all_eq_true]
  intro x hx
  obtain ⟨k, hk, rfl⟩ := List.mem_iff_getElem.1 hx
  have := h k (by rw [← dl_len]; exact hk)
  rw [List.getElem?_eq_getElem hk] at this
  exact this

set_option maxRecDepth 100000 in
set_option maxHeartbeats 1000000 in
theorem tchar_any (c : UInt8) (w : World) : Calls Tryz.prog 95 #[.int .u8 (c.toNat : Int)] w (fun e w' => e = .returned (.bool (nameC c)) ∧ w' = w) := by
  have hc := c.toNat_lt
  obtain ⟨n, hn⟩ : ∃ n, c.toNat = n := ⟨_, rfl⟩
  have HN := Lib.hid hn
  by_cases ha : alnum n = true
  · have HE : Hid (nameC c = true) := Lib.hid (by rw [nameC, hn, ha]; rfl)
    rw [hn] at hc ⊢
    clear hn
    have ha' : (48 ≤ n ∧ n ≤ 57) ∨ (97 ≤ n ∧ n ≤ 122) ∨ (65 ≤ n ∧ n ≤ 90) := by
      unfold alnum at ha
      simp only [decide_eq_true_eq] at ha
      omega
    clear ha
    rcases ha' with ⟨h1, h2⟩ | ⟨h1, h2⟩ | ⟨h1, h2⟩
    all_goals
      go_enter Tryz.func95, Tryz.ntmps95
      go_wp2
      go_ret
      exact ⟨ret_bool HE.out.symm, rfl⟩
  · have HE : Hid (nameC c = marks.contains c) := Lib.hid (by rw [nameC, hn, Bool.eq_false_iff.2 ha]; rfl)
    rw [hn] at hc ⊢
    clear hn
    have ha' : n < 48 ∨ (57 < n ∧ n < 65) ∨ (90 < n ∧ n < 97) ∨ 122 < n := by
      unfold alnum at ha
      simp only [decide_eq_true_eq] at ha
      omega
    clear ha
    rcases ha' with h1 | ⟨h1, h2⟩ | ⟨h1, h2⟩ | h1
    all_goals
      go_enter Tryz.func95, Tryz.ntmps95
      go_wp2_with fail
      go_loopw [3] (fun i wr => ∃ k : Nat, k ≤ 15 ∧ i = .int .i64 (k : Int) ∧ Hid (∀ j, j < k → ((⟨#[33, 35, 36, 37, 38, 39, 42, 43, 45, 46, 94, 95, 96, 124, 126]⟩ : ByteArray).data[j]?.getD 0) ≠ c) ∧ w = wr) (fun i _ => 15 - (intOf i).toNat)
      case atStart => exact ⟨0, Nat.zero_le _, rfl, Lib.hid (fun j hj => absurd hj (by omega)), rfl⟩
      case round =>
        obtain ⟨k, hk, rfl, HK, rfl⟩ := hrel
        by_cases hlt : k < 15
        · go_wp2
          · rename_i hq
            go_ret
            exact ⟨ret_bool (by rw [HE.out, eq_comm, marks_iff]; exact ⟨k, hlt, getD_eq hlt hq HN.out⟩), rfl⟩
          · rename_i hq
            go_roundw
            case rel =>
              refine ⟨k + 1, by omega, by go_num, Lib.hid (fun j hj => ?_), trivial⟩
              by_cases hjk : j < k
              · exact HK.out j hjk
              · obtain rfl : j = k := by omega
                exact getD_ne hlt hq HN.out
            case measure => simp [intOf]; omega
        · obtain rfl : k = 15 := by omega
          go_wp2
          go_ret
          refine ⟨ret_bool ?_, rfl⟩
          rw [HE.out, eq_comm, Bool.eq_false_iff, ne_eq, marks_iff]
          rintro ⟨j, hj, he⟩
          exact HK.out j hj he

set_option maxHeartbeats 1000000 in
theorem rname_any (s : ByteArray) (hs : s.size ≤ 4096) (w : World) : Calls Tryz.prog 77 #[.string s] w (fun e w' => e = .returned (.bool (nameB (dl s))) ∧ w' = w) := by
  go_enter Tryz.func77, Tryz.ntmps77
  go_wp2_with fail
  go_loopw [3] (fun i wr => ∃ k : Nat, k ≤ s.size ∧ i = .int .i64 (k : Int) ∧ Hid (∀ j, j < k → (dl s)[j]?.all nameC = true) ∧ w = wr) (fun i _ => s.size - (intOf i).toNat)
  case atStart => exact ⟨0, Nat.zero_le _, rfl, Lib.hid (fun j hj => absurd hj (by omega)), rfl⟩
  case round =>
    obtain ⟨k, hk, rfl, HK, rfl⟩ := hrel
    by_cases hlt : k < s.size
    · have HC := Lib.hid (fun W => tchar_any s[k] W)
      have HA : Hid ((dl s)[k]?.all nameC = nameC s[k]) := Lib.hid (by rw [dl_at hlt]; rfl)
      obtain ⟨b, hb⟩ : ∃ b, nameC s[k] = b := ⟨_, rfl⟩
      rw [hb] at HC HA
      clear hb
      go_wp2_with fail
      refine (HC.out _).mono ?_
      rintro e w' ⟨rfl, rfl⟩
      cases b with
      | false =>
        have HE : Hid (nameB (dl s) = false) := Lib.hid (all_no HA.out)
        go_wp2
        go_ret
        exact ⟨ret_bool HE.out.symm, rfl⟩
      | true =>
        go_wp2
        go_roundw
        case rel =>
          refine ⟨k + 1, by omega, by go_num, Lib.hid (fun j hj => ?_), trivial⟩
          by_cases hjk : j < k
          · exact HK.out j hjk
          · obtain rfl : j = k := by omega
            exact HA.out
        case measure => simp [intOf]; omega
    · obtain rfl : k = s.size := by omega
      have HE : Hid (nameB (dl s) = (decide (1 ≤ s.size) && decide (s.size ≤ 40))) := Lib.hid (by rw [nameB, all_yes HK.out, dl_len, Bool.and_true])
      have hemp := isEmp (s := s)
      clear HK
      by_cases h0 : s.size = 0
      · rw [decide_eq_true h0] at hemp
        have HE2 : Hid (nameB (dl s) = false) := Lib.hid (by rw [HE.out]; simp [h0])
        go_wp2
        go_ret
        exact ⟨ret_bool HE2.out.symm, rfl⟩
      · rw [decide_eq_false h0] at hemp
        have HE2 : Hid (nameB (dl s) = decide (s.size ≤ 40)) := Lib.hid (by rw [HE.out, decide_eq_true (show 1 ≤ s.size by omega), Bool.true_and])
        go_wp2
        go_ret
        refine ⟨ret_bool (by rw [HE2.out, decide_eq_decide]; omega), rfl⟩

theorem bl_eq (c : UInt8) : bl c = (decide (c.toNat = 32) || decide (c.toNat = 9)) := by
  have h : ∀ n : Fin 256, bl (UInt8.ofNat n.1) = (decide ((UInt8.ofNat n.1).toNat = 32) || decide ((UInt8.ofNat n.1).toNat = 9)) := by decide +kernel
  have := h ⟨c.toNat, c.toNat_lt⟩
  simpa using this
set_option maxHeartbeats 400000 in
theorem blank_any (c : UInt8) (w : World) : Calls Tryz.prog 134 #[.int .u8 (c.toNat : Int)] w (fun e w' => e = .returned (.bool (bl c)) ∧ w' = w) := by
  have HE := Lib.hid (bl_eq c)
  obtain ⟨n, hn⟩ : ∃ n, c.toNat = n := ⟨_, rfl⟩
  rw [hn] at HE ⊢
  clear hn
  by_cases h1 : n = 32
  · subst h1
    go_enter Tryz.func134, Tryz.ntmps134
    go_wp2
    go_ret
    exact ⟨ret_bool (by rw [HE.out]; rfl), rfl⟩
  · by_cases h2 : n = 9
    · subst h2
      go_enter Tryz.func134, Tryz.ntmps134
      go_wp2
      go_ret
      exact ⟨ret_bool (by rw [HE.out]; rfl), rfl⟩
    · have e1 : ((n : Int) == 32) = false := beq_eq_false_iff_ne.2 (by omega)
      have e2 : ((n : Int) == 9) = false := beq_eq_false_iff_ne.2 (by omega)
      go_enter Tryz.func134, Tryz.ntmps134
      go_wp2
      go_ret
      exact ⟨ret_bool (by rw [HE.out, decide_eq_false h1, decide_eq_false h2]; rfl), rfl⟩

end Go.Proofs.YtdlihfbaepjliaaGreatDoor

/-
  The walks of the document's own Trim, Lower and Value.
-/
namespace Go.Proofs.YtdlihfbaepjliaaGreatDoor
open Go.RowKit

theorem dl_cons {t : ByteArray} (h : 0 < t.size) : dl t = t[0] :: dl (t.extract 1 t.size) := by
  rw [dl_ext, List.take_of_length_le (by rw [dl_len]; exact Nat.le_refl _)]
  have h1 := dl_at h
  cases hd : dl t with
  | nil => rw [hd] at h1; cases h1
  | cons x r =>
    rw [hd] at h1
    simp at h1
    simp [h1]
theorem dl_snoc {t : ByteArray} (h : 0 < t.size) : dl t = dl (t.extract 0 (t.size - 1)) ++ [t[t.size - 1]'(by omega)] := by
  have hk : t.size - 1 < t.size := by omega
  have h1 := dl_at hk
  rw [dl_ext, List.drop_zero]
  have h2 : (dl t).take (t.size - 1 + 1) = (dl t).take (t.size - 1) ++ ((dl t)[t.size - 1]?).toList := List.take_add_one
  rw [h1, List.take_of_length_le (by rw [dl_len]; omega)] at h2
  exact h2
theorem ext1_size {t : ByteArray} (h : 0 < t.size) : (t.extract 1 t.size).size = t.size - 1 := by
  rw [ByteArray.size_extract]; omega
theorem ext0_size {t : ByteArray} (h : 0 < t.size) : (t.extract 0 (t.size - 1)).size = t.size - 1 := by
  rw [ByteArray.size_extract]; omega
theorem rdrop_snoc (l : Bs) (x : UInt8) : rdrop (l ++ [x]) = if bl x = true then rdrop l else l ++ [x] := by
  unfold rdrop
  rw [List.reverse_append]
  show ((x :: l.reverse).dropWhile bl).reverse = _
  split
  · next h => rw [List.dropWhile_cons_of_pos h]
  · next h => rw [List.dropWhile_cons_of_neg h]; simp

set_option maxRecDepth 100000 in
set_option maxHeartbeats 2000000 in
theorem rtrim_any (s : ByteArray) (hs : s.size ≤ 4096) (w : World) : Calls Tryz.prog 114 #[.string s] w (fun e w' => ∃ r, e = .returned (.string r) ∧ dl r = trimL (dl s) ∧ w' = w) := by
  go_enter Tryz.func114, Tryz.ntmps114
  go_wp2_with fail
  go_loopw [0] (fun v wr => ∃ t : ByteArray, t.size ≤ s.size ∧ v = .string t ∧ Hid ((dl t).dropWhile bl = (dl s).dropWhile bl) ∧ w = wr) (fun v _ => szOf v)
  case atStart => exact ⟨s, Nat.le_refl _, rfl, Lib.hid rfl, rfl⟩
  case round =>
    obtain ⟨t, ht, rfl, HT, rfl⟩ := hrel
    by_cases h0 : 0 < t.size
    · have HC := Lib.hid (fun W => blank_any t[0] W)
      obtain ⟨b, hb⟩ : ∃ b, bl t[0] = b := ⟨_, rfl⟩
      rw [hb] at HC
      have HB := Lib.hid hb
      clear hb
      have HD := Lib.hid (dl_cons h0)
      cases b with
      | true =>
        go_wp2_with fail
        refine (HC.out _).mono ?_
        rintro e w' ⟨rfl, rfl⟩
        go_wp2
        go_roundw
        case rel =>
          refine ⟨t.extract 1 t.size, by rw [ext1_size h0]; omega, rfl, Lib.hid ?_, trivial⟩
          rw [← HT.out, HD.out, List.dropWhile_cons_of_pos HB.out]
        case measure => simp only [szOf, go_sem]; simp; omega
      | false =>
        have HT2 : Hid (dl t = (dl s).dropWhile bl) := Lib.hid (by rw [← HT.out, HD.out, List.dropWhile_cons_of_neg (by simp [HB.out])])
        go_wp2_with fail
        refine (HC.out _).mono ?_
        rintro e w' ⟨rfl, rfl⟩
        go_wp2_with fail
        clear HT HC HD HB
        go_loopw [0] (fun v wr => ∃ u : ByteArray, u.size ≤ t.size ∧ v = .string u ∧ Hid (rdrop (dl u) = rdrop (dl t)) ∧ w' = wr) (fun v _ => szOf v)
        case atStart => exact ⟨t, Nat.le_refl _, rfl, Lib.hid rfl, rfl⟩
        case round =>
          obtain ⟨u, hu, rfl, HU, rfl⟩ := hrel
          by_cases h1 : 0 < u.size
          · have HC := Lib.hid (fun W => blank_any (u[u.size - 1]'(by omega)) W)
            obtain ⟨b, hb⟩ : ∃ b, bl (u[u.size - 1]'(by omega)) = b := ⟨_, rfl⟩
            rw [hb] at HC
            have HB := Lib.hid hb
            clear hb
            have HD := Lib.hid (dl_snoc h1)
            have HR := Lib.hid (rdrop_snoc (dl (u.extract 0 (u.size - 1))) (u[u.size - 1]'(by omega)))
            have ei : ((u.size : Int) - 1).toNat = u.size - 1 := by omega
            cases b with
            | true =>
              go_wp2_with fail
              refine (HC.out _).mono ?_
              rintro e w' ⟨rfl, rfl⟩
              go_wp2
              go_roundw
              case rel =>
                refine ⟨u.extract 0 (u.size - 1), by rw [ext0_size h1]; omega, rfl, Lib.hid ?_, trivial⟩
                have h3 := HR.out
                rw [← HD.out, if_pos HB.out] at h3
                rw [← HU.out, h3]
              case measure => simp only [szOf, go_sem]; simp; omega
            | false =>
              have HE : Hid (dl u = trimL (dl s)) := Lib.hid (by
                have h3 := HR.out
                rw [← HD.out, if_neg (by simp [HB.out])] at h3
                rw [trim_eq', ← HT2.out, ← HU.out, h3])
              go_wp2_with fail
              refine (HC.out _).mono ?_
              rintro e w' ⟨rfl, rfl⟩
              go_wp2
              go_ret
              exact ⟨_, rfl, HE.out, rfl⟩
          · have HE : Hid (dl u = trimL (dl s)) := Lib.hid (by
              have h3 := dl_nil (s := u) (by omega)
              have h4 := HU.out
              rw [h3] at h4 ⊢
              rw [trim_eq', ← HT2.out, ← h4]
              rfl)
            go_wp2
            go_ret
            exact ⟨_, rfl, HE.out, rfl⟩
    · have HT2 : Hid (dl t = (dl s).dropWhile bl) := Lib.hid (by
        have h3 := dl_nil (s := t) (by omega)
        have h4 := HT.out
        rw [h3] at h4 ⊢
        rw [← h4]; try rfl)
      go_wp2_with fail
      clear HT
      go_loopw [0] (fun v wr => ∃ u : ByteArray, u.size ≤ t.size ∧ v = .string u ∧ Hid (rdrop (dl u) = rdrop (dl t)) ∧ w = wr) (fun v _ => szOf v)
      case atStart => exact ⟨t, Nat.le_refl _, rfl, Lib.hid rfl, rfl⟩
      case round =>
        obtain ⟨u, hu, rfl, HU, rfl⟩ := hrel
        by_cases h1 : 0 < u.size
        · exfalso; omega
        · have HE : Hid (dl u = trimL (dl s)) := Lib.hid (by
            have h3 := dl_nil (s := u) (by omega)
            have h4 := HU.out
            rw [h3] at h4 ⊢
            rw [trim_eq', ← HT2.out, ← h4]; try rfl)
          go_wp2
          go_ret
          exact ⟨_, rfl, HE.out, rfl⟩

/-- a byte of small letters -/
theorem lowC_nat (c : UInt8) : ((lowC c).toNat : Int) = if 65 ≤ c.toNat ∧ c.toNat ≤ 90 then (c.toNat : Int) + 32 else (c.toNat : Int) := by
  have h : ∀ n : Fin 256, ((lowC (UInt8.ofNat n.1)).toNat : Int) = if 65 ≤ (UInt8.ofNat n.1).toNat ∧ (UInt8.ofNat n.1).toNat ≤ 90 then ((UInt8.ofNat n.1).toNat : Int) + 32 else ((UInt8.ofNat n.1).toNat : Int) := by decide +kernel
  have := h ⟨c.toNat, c.toNat_lt⟩
  simpa using this
theorem conv1 (W : World) (x : UInt8) : (convert 22 9 (.slice (some ⟨W.heap.size, 0, none⟩) 1 1)).run Tryz.prog (W.alloc (.cells #[.int .u8 (x.toNat : Int)] 5)) = .ok (.string ⟨#[x]⟩) (W.alloc (.cells #[.int .u8 (x.toNat : Int)] 5)) := by
  have h := run_convert_bytes_back (P := Tryz.prog) (W.alloc (.cells #[.int .u8 (x.toNat : Int)] 5)) 22 9 5 ⟨W.heap.size, 0, none⟩ 1 [x] Tryz.underlying22 Tryz.underlying5 Tryz.underlying9 (fun j hj => by
    obtain rfl : j = 0 := by simpa using hj
    exact (Box.new W 5 #[.int .u8 (x.toNat : Int)]).c 0 rfl)
  simpa using h

theorem tl_dl {a b : ByteArray} (h : a.toList = b.toList) : dl a = dl b := by
  rw [Go.ByteArray.toList_eq, Go.ByteArray.toList_eq] at h
  exact h
theorem tl_ne {a b : ByteArray} (h : a ≠ b) : (a.toList == b.toList) = false := beq_eq_false_iff_ne.2 fun e => h (dl_inj (tl_dl e))
theorem valC_eq (c : UInt8) : valC c = (decide (c.toNat = 9) || (decide (32 ≤ c.toNat) && decide (c.toNat ≤ 126))) := by
  unfold valC
  rw [Bool.eq_iff_iff]
  simp
theorem all_noV {s : ByteArray} {k : Nat} (h : (dl s)[k]?.all valC = false) : valueB (dl s) = false := by
  cases hx : (dl s)[k]? with
  | none => rw [hx] at h; cases h
  | some x =>
    rw [hx] at h
    have hm := List.mem_of_getElem? hx
    have : (dl s).all valC = false := by
      rw [List.all_eq_false]
      exact ⟨x, hm, by simpa using h⟩
    rw [valueB, this, Bool.and_false]

set_option maxRecDepth 100000 in
set_option maxHeartbeats 2000000 in
theorem rvalue_any (s : ByteArray) (hs : s.size ≤ 4096) (w : World) : Calls Tryz.prog 94 #[.string s] w (fun e w' => e = .returned (.bool (valueB (dl s))) ∧ w' = w) := by
  go_enter Tryz.func94, Tryz.ntmps94
  go_wp2_with fail
  go_loopw [3] (fun i wr => ∃ k : Nat, k ≤ s.size ∧ i = .int .i64 (k : Int) ∧ Hid (∀ j, j < k → (dl s)[j]?.all valC = true) ∧ w = wr) (fun i _ => s.size - (intOf i).toNat)
  case atStart => exact ⟨0, Nat.zero_le _, rfl, Lib.hid (fun j hj => absurd hj (by omega)), rfl⟩
  case round =>
    obtain ⟨k, hk, rfl, HK, rfl⟩ := hrel
    by_cases hlt : k < s.size
    · have HA : Hid ((dl s)[k]?.all valC = valC s[k]) := Lib.hid (by rw [dl_at hlt]; rfl)
      have HV := Lib.hid (valC_eq s[k])
      have hc := (s[k]).toNat_lt
      obtain ⟨n, hn⟩ : ∃ n, (s[k]).toNat = n := ⟨_, rfl⟩
      rw [hn] at hc HV
      by_cases hg : n = 9 ∨ (32 ≤ n ∧ n ≤ 126)
      · have HY : Hid ((dl s)[k]?.all valC = true) := Lib.hid (by rw [HA.out, HV.out]; simp; omega)
        have HR : Hid (∀ j, j < k + 1 → (dl s)[j]?.all valC = true) := Lib.hid (fun j hj => by
          by_cases hjk : j < k
          · exact HK.out j hjk
          · obtain rfl : j = k := by omega
            exact HY.out)
        clear HA HV HK
        rcases hg with rfl | ⟨h1, h2⟩
        · go_wp2
          go_roundw
          case rel => exact ⟨k + 1, by omega, by go_num, HR, trivial⟩
          case measure => simp [intOf]; omega
        · have e1 : ((n : Int) != 9) = true := bne_iff_ne.2 (by omega)
          go_wp2
          go_roundw
          case rel => exact ⟨k + 1, by omega, by go_num, HR, trivial⟩
          case measure => simp [intOf]; omega
      · have HE : Hid (valueB (dl s) = false) := Lib.hid (all_noV (k := k) (by rw [HA.out, HV.out]; simp; omega))
        have e1 : ((n : Int) != 9) = true := bne_iff_ne.2 (by omega)
        have hcase : n < 32 ∨ (32 ≤ n ∧ 126 < n) := by omega
        clear hg
        rcases hcase with h1 | ⟨h1, h2⟩
        all_goals
          go_wp2
          go_ret
          exact ⟨ret_bool HE.out.symm, rfl⟩
    · obtain rfl : k = s.size := by omega
      have HE : Hid (valueB (dl s) = (decide (s.size ≤ 200) && decide (trimL (dl s) = dl s))) := Lib.hid (by rw [valueB, all_yes HK.out, dl_len, Bool.and_true])
      clear HK
      by_cases h2 : s.size ≤ 200
      · go_wp2_with fail
        refine (rtrim_any s hs _).mono ?_
        rintro e w' ⟨r, rfl, hr, rfl⟩
        by_cases hq : r = s
        · subst hq
          have HE2 : Hid (valueB (dl r) = true) := Lib.hid (by rw [HE.out, ← hr]; simp [h2])
          clear hr
          go_wp2
          go_ret
          exact ⟨ret_bool (by rw [HE2.out]; try simp), rfl⟩
        · have hrs : (r.toList == s.toList) = false := tl_ne hq
          have HE2 : Hid (valueB (dl s) = false) := Lib.hid (by rw [HE.out, decide_eq_false (p := trimL (dl s) = dl s) (fun h => hq (dl_inj (hr.trans h))), Bool.and_false])
          clear hr
          go_wp2
          go_ret
          exact ⟨ret_bool HE2.out.symm, rfl⟩
      · have HE2 : Hid (valueB (dl s) = false) := Lib.hid (by rw [HE.out, decide_eq_false h2]; rfl)
        go_wp2
        go_ret
        exact ⟨ret_bool HE2.out.symm, rfl⟩

theorem lower_succ {s : ByteArray} {k : Nat} (hk : k < s.size) : lowerL ((dl s).take (k + 1)) = lowerL ((dl s).take k) ++ [lowC s[k]] := by
  rw [List.take_add_one, dl_at hk]
  simp [lowerL]

set_option maxRecDepth 100000 in
set_option maxHeartbeats 2000000 in
theorem rlower_any (s : ByteArray) (hs : s.size ≤ 4096) (w : World) : Calls Tryz.prog 40 #[.string s] w (TextEnds (lowerL (dl s)) w) := by
  go_enter Tryz.func40, Tryz.ntmps40
  go_wp2_with fail
  go_loopw [4, 3] (fun i o wr => ∃ (k : Nat) (t : ByteArray), k ≤ s.size ∧ i = .int .i64 (k : Int) ∧ o = .string t ∧ t.size ≤ k ∧ Hid (dl t = lowerL ((dl s).take k)) ∧ Below w.heap.size w wr) (fun i _ _ => s.size - (intOf i).toNat)
  case atStart => exact ⟨0, ⟨#[]⟩, Nat.zero_le _, rfl, rfl, Nat.le_refl _, Lib.hid rfl, Below.refl _ _⟩
  case round =>
    obtain ⟨k, t, hk, rfl, rfl, hts, HT, hbl⟩ := hrel
    by_cases hlt : k < s.size
    · have HS := Lib.hid (lower_succ hlt)
      have HL := Lib.hid (lowC_nat s[k])
      have hc := (s[k]).toNat_lt
      obtain ⟨x, hx⟩ : ∃ x, lowC s[k] = x := ⟨_, rfl⟩
      rw [hx] at HS HL
      clear hx
      obtain ⟨n, hn⟩ : ∃ n, (s[k]).toNat = n := ⟨_, rfl⟩
      rw [hn] at hc HL
      have hcv := conv1 wr x
      have hx1 : (⟨#[x]⟩ : ByteArray).size = 1 := rfl
      have HN : Hid (dl (t ++ ⟨#[x]⟩) = lowerL ((dl s).take (k + 1))) := Lib.hid (by rw [dl_app, HT.out, HS.out])
      have hsz : (t ++ (⟨#[x]⟩ : ByteArray)).size ≤ k + 1 := by
        rw [ByteArray.size_append, hx1]; omega
      generalize (⟨#[x]⟩ : ByteArray) = X at *
      by_cases hcap : 65 ≤ n ∧ n ≤ 90
      · obtain ⟨c1, c2⟩ := hcap
        have hL : (x.toNat : Int) = (n : Int) + 32 := by rw [HL.out, if_pos ⟨c1, c2⟩]
        rw [hL] at hcv
        clear hL
        go_wp2
        go_roundw
        case rel => exact ⟨k + 1, _, by omega, by go_num, rfl, hsz, HN, bon hbl (ba1 _ _)⟩
        case measure => simp [intOf]; omega
      · have hL : (x.toNat : Int) = (n : Int) := by rw [HL.out, if_neg hcap]
        rw [hL] at hcv
        clear hL
        have hcase : n < 65 ∨ 90 < n := by omega
        clear hcap
        rcases hcase with c1 | c1
        all_goals
          go_wp2
          go_roundw
          case rel => exact ⟨k + 1, _, by omega, by go_num, rfl, hsz, HN, bon hbl (ba1 _ _)⟩
          case measure => simp [intOf]; omega
    · obtain rfl : k = s.size := by omega
      have HE : Hid (dl t = lowerL (dl s)) := Lib.hid (by rw [HT.out, List.take_of_length_le (by rw [dl_len]; exact Nat.le_refl _)])
      go_wp2
      go_ret
      exact ⟨_, rfl, HE.out, hbl⟩


end Go.Proofs.YtdlihfbaepjliaaGreatDoor
