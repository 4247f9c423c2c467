/-
  Words for texts and for memory: a block of cells, a slice that reads as a list, and what survives the steps of a walk.
-/
import Derived.Test.YtnkhghjcfhpeiaaGreatDoorJFm
import Derived.Test.YtnkhghjcfhpeiaaGreatDoorProg
import Derived.WalkKit
import Derived.WalkSpells
import Derived.WalkLawsBesides
import Derived.WalkSmall
import Derived.Lib.Hide
import Derived.IntWalk
import Derived.BigQuiet
import Derived.Laws.OwnMore
import Derived.Deep.AppendLies
import Derived.Test.YtnkhghjcfhpeiaaGreatDoorNum
namespace Go.Proofs.YtnkhghjcfhpeiaaGreatDoor
open Go.RowKit

theorem ret_bool {a b : Bool} (h : a = b) : Ending.returned (.bool a) = .returned (.bool b) := by rw [h]

/-- the bytes of a text -/
abbrev dl (s : ByteArray) : Bs := s.data.toList
theorem dl_len (s : ByteArray) : (dl s).length = s.size := Array.length_toList
theorem dl_inj {a b : ByteArray} (h : dl a = dl b) : a = b := by
  cases a; cases b
  simp only [dl, ByteArray.mk.injEq] at h ⊢
  exact Array.toList_inj.1 h
theorem dl_at {s : ByteArray} {k : Nat} (hk : k < s.size) : (dl s)[k]? = some s[k] := by
  rw [Array.getElem?_toList]
  exact Array.getElem?_eq_getElem (xs := s.data) hk
theorem dl_mk (l : Bs) : dl ⟨l.toArray⟩ = l := by simp [dl]
theorem dl_app (a b : ByteArray) : dl (a ++ b) = dl a ++ dl b := by simp [dl]
theorem dl_ext (s : ByteArray) (i j : Nat) : dl (s.extract i j) = ((dl s).take j).drop i := by
  simp only [dl, ByteArray.data_extract, Array.toList_extract, List.extract_eq_take_drop]
  rw [List.drop_take]
theorem dl_nil {s : ByteArray} (h : s.size = 0) : dl s = [] := List.eq_nil_of_length_eq_zero (by rw [dl_len]; exact h)
theorem emp_of {s : ByteArray} (h : s.size = 0) : s = ⟨#[]⟩ := dl_inj (by rw [dl_nil h])
theorem isEmp {s : ByteArray} : s.toList.isEmpty = decide (s.size = 0) := by
  rw [Go.ByteArray.toList_eq]
  by_cases h : s.size = 0
  · rw [decide_eq_true h, show s.data.toList = [] from dl_nil h]
    rfl
  · rw [decide_eq_false h]
    cases hd : s.data.toList with
    | nil => exact absurd (by rw [← dl_len]; rw [show dl s = [] from hd]; rfl) h
    | cons x r => rfl
/-- how long a text is -/
def szOf : Value → Nat
  | .string s => s.size
  | _ => 0

theorem ba1 (w : World) (o : Obj) : Below w.heap.size w (w.alloc o) := (Below.refl _ _).alloc (Nat.le_refl _) o
theorem ba2 (w : World) (o o' : Obj) : Below w.heap.size w ((w.alloc o).alloc o') := (ba1 w o).alloc (by simp) o'
theorem ba3 (w : World) (o o' o'' : Obj) : Below w.heap.size w (((w.alloc o).alloc o').alloc o'') := (ba2 w o o').alloc (by simp; omega) o''
theorem bon {w w1 w2 : World} (h : Below w.heap.size w w1) (k : Below w1.heap.size w1 w2) : Below w.heap.size w w2 := h.trans (k.mono h.size)

/-- block g is just the cells cs, none of them frozen -/
def Box (w : World) (g : Nat) (t : TypeId) (cs : Array Value) : Prop := w.heap[g]? = some (.cells cs t (0, 0))
section
variable {w w' : World} {g : Nat} {t : TypeId} {cs : Array Value}
theorem Box.lt (h : Box w g t cs) : g < w.heap.size := (Array.getElem?_eq_some_iff.1 h).1
theorem Box.c (h : Box w g t cs) (i : Nat) {v : Value} (hv : cs[i]? = some v) : w.cell? ⟨g, i, none⟩ = some v := (cell_of_row w g i cs t (0, 0) h).trans hv
theorem Box.f (h : Box w g t cs) (i : Nat) : w.frozen? ⟨g, i, none⟩ = false := by
  unfold Box at h
  simp [World.frozen?, h]
theorem Box.new (w : World) (t : TypeId) (cs : Array Value) : Box (w.alloc (.cells cs t)) w.heap.size t cs := heap_alloc_new w _
theorem Box.mk' (w : World) (t : TypeId) (cs : Array Value) (g : Nat) (hg : w.heap.size = g) : Box (w.alloc (.cells cs t)) g t cs := hg ▸ Box.new w t cs
theorem Box.alloc (h : Box w g t cs) (o : Obj) : Box (w.alloc o) g t cs := (Below.heap_alloc w o g h.lt).trans h
theorem Box.set (h : Box w g t cs) (i : Nat) (u : Value) : Box (w.setCell ⟨g, i, none⟩ u) g t (cs.setIfInBounds i u) := by
  unfold Box at h ⊢
  simp [World.setCell, Array.getElem?_modify, h]
theorem Box.far (h : Box w g t cs) {p : Addr} (hp : g ≠ p.block) (u : Value) : Box (w.setCell p u) g t cs := (Below.heap_setCell w p u g hp).trans h
theorem Box.below {B : Nat} (h : Box w g t cs) (hb : Below B w w') (hg : g < B) : Box w' g t cs := (hb.block g hg).trans h
theorem Box.up (h : Box w g t cs) (hb : Below w.heap.size w w') : Box w' g t cs := h.below hb h.lt
theorem Box.one {x : Value} (h : Box w g t #[x]) : w.cell? ⟨g, 0, none⟩ = some x ∧ w.frozen? ⟨g, 0, none⟩ = false := ⟨h.c 0 rfl, h.f 0⟩
end

theorem cell_up {X w' : World} {a : Addr} {v : Value} (hb : Below X.heap.size X w') (h : X.cell? a = some v) : w'.cell? a = some v := (hb.cell (World.block_lt_of_cell? X a h)).trans h
/-- a text is handed back -/
def TextEnds (t : Bs) (w : World) (e : Ending) (w' : World) : Prop := ∃ s : ByteArray, e = .returned (.string s) ∧ dl s = t ∧ Below w.heap.size w w'
/-- a bool -/
def BoolEnds (b : Bool) (w : World) (e : Ending) (w' : World) : Prop := e = .returned (.bool b) ∧ Below w.heap.size w w'

/-- a slice's address, length and room -/
structure Sli where
  A : Option Addr
  n : Nat
  c : Nat
abbrev Sli.v (s : Sli) : Value := .slice s.A s.n s.c

/-- the cells at address A read as cs -/
def Rd (w : World) (A : Option Addr) (cs : List Value) : Prop :=
  0 < cs.length → ∃ b o, A = some ⟨b, o, none⟩ ∧ b < w.heap.size ∧ ∀ (j : Nat) u, cs[j]? = some u → w.cell? ⟨b, o + j, none⟩ = some u
theorem Rd.up {w w' : World} {A : Option Addr} {cs : List Value} (h : Rd w A cs) (hb : Below w.heap.size w w') : Rd w' A cs := by
  intro hx
  obtain ⟨b, o, rfl, hl, hc⟩ := h hx
  exact ⟨b, o, rfl, Nat.lt_of_lt_of_le hl hb.size, fun j u hj => (hb.cell hl).trans (hc j u hj)⟩

/-- a row of cells of the call's own, from block B on -/
abbrev Row (w : World) (B : Nat) (e : TypeId) (sz : Nat) (s : Sli) (cs : List Value) : Prop := w.ownsRow B e sz (.slice s.A s.n s.c) s.n cs
section
variable {w w' : World} {B sz : Nat} {e : TypeId} {s : Sli} {cs : List Value}
theorem Row.rd (h : Row w B e sz s cs) (hn : s.n = 0 → cs = []) : Rd w s.A cs := by
  intro hx
  rcases h.2 with ⟨_, h2⟩ | ⟨g, cap, cur, h1, hb, hg, hnc, hm, hcs, hv⟩
  · rw [hn h2] at hx
    exact absurd hx (by simp)
  · simp only [Value.slice.injEq] at h1
    refine ⟨g, 0, h1.1, (Array.getElem?_eq_some_iff.1 hg).1, fun j u hu => ?_⟩
    rw [Nat.zero_add, cell_of_row w g j cur e (0, 0) hg, ← Array.getElem?_toList]
    rw [← hv, List.getElem?_take] at hu
    split at hu
    · exact hu
    · cases hu
theorem Row.keep (h : Row w B e sz s cs) (hk : ∀ (g : Nat) (cur : Array Value), w.heap[g]? = some (.cells cur e (0, 0)) → w'.heap[g]? = w.heap[g]?) : Row w' B e sz s cs := by
  refine ⟨h.1, ?_⟩
  rcases h.2 with hn | ⟨g, cap, cur, e1, hb, hgc, q⟩
  · exact .inl hn
  · exact .inr ⟨g, cap, cur, e1, hb, by rw [hk g cur hgc]; exact hgc, q⟩
theorem Row.up (h : Row w B e sz s cs) (hb : Below w.heap.size w w') : Row w' B e sz s cs := h.keep fun g _ hg => hb.block g (Array.getElem?_eq_some_iff.1 hg).1
end
theorem box_ne {w : World} {p g : Nat} {t e : TypeId} {cs cur : Array Value} (h : Box w p t cs) (hg : w.heap[g]? = some (.cells cur e (0, 0))) (ht : t ≠ e) : g ≠ p := by
  intro he
  subst he
  unfold Box at h
  rw [h] at hg
  simp only [Option.some.injEq, Obj.cells.injEq] at hg
  exact ht hg.2.1
/-- what is no row of that kind stays when the row grows -/
theorem grown_other {w w' : World} {B n sz : Nat} {e t : TypeId} {v : Value} {xs : List Value} (h : w.ownsRow B e sz v n xs) (hg : w.grownBy w' v.ownBlock) {j : Nat} {cs : Array Value} {fz : Nat × Nat} (hj : w.heap[j]? = some (.cells cs t fz)) (ht : t ≠ e) : w'.heap[j]? = w.heap[j]? := by
  refine hg.block j (Array.getElem?_eq_some_iff.1 hj).1 ?_
  intro he
  rcases h.2 with ⟨rfl, _⟩ | ⟨g, cap, cur, rfl, hb, hgc, _⟩
  · cases he
  · have : j = g := Option.some.inj he
    subst this
    rw [hj] at hgc
    simp only [Option.some.injEq, Obj.cells.injEq] at hgc
    exact ht hgc.2.1
theorem grown_base {w w' : World} {B B2 n sz : Nat} {e : TypeId} {v : Value} {xs : List Value} (h : w.ownsRow B2 e sz v n xs) (hg : w.grownBy w' v.ownBlock) {a : World} (hb : Below B a w) (hB : B ≤ B2) (hw : B ≤ w.heap.size) : Below B a w' :=
  hb.grown hg hw fun k hk => by
    rcases h.2 with ⟨rfl, _⟩ | ⟨g, cap, cur, rfl, hb, _⟩
    · cases hk
    · have : g = k := Option.some.inj hk
      omega

/-- texts in a row -/
def svs (xs : List ByteArray) : List Value := xs.map Value.string
theorem svs_one (xs : List ByteArray) : ∀ u ∈ svs xs, u.oneCell' = true := by
  intro u hu
  obtain ⟨x, _, rfl⟩ := List.mem_map.1 hu
  rfl
/-- fields in a row: two cells each -/
abbrev Fd := ByteArray × ByteArray
def fvs (fs : List Fd) : List Value := fs.flatMap fun f => [.string f.1, .string f.2]
theorem fvs_len (xs : List Fd) : (fvs xs).length = xs.length * 2 := by
  induction xs with
  | nil => rfl
  | cons x r ih =>
    show ([Value.string x.1, Value.string x.2] ++ fvs r).length = _
    rw [List.length_append, ih]
    simp
    omega
theorem fvs_app (xs ys : List Fd) : fvs (xs ++ ys) = fvs xs ++ fvs ys := by simp [fvs]
theorem fvs_one (xs : List Fd) : ∀ u ∈ fvs xs, u.oneCell' = true := by
  intro u hu
  simp only [fvs, List.mem_flatMap] at hu
  obtain ⟨t, _, ht⟩ := hu
  simp only [List.mem_cons, List.not_mem_nil, or_false] at ht
  rcases ht with rfl | rfl <;> rfl
theorem fvs_at (xs : List Fd) : ∀ (k : Nat) (t : Fd), xs[k]? = some t → (fvs xs)[k * 2]? = some (.string t.1) ∧ (fvs xs)[k * 2 + 1]? = some (.string t.2) := by
  induction xs with
  | nil => intro k t h; simp at h
  | cons x r ih =>
    intro k t h
    cases k with
    | zero =>
      simp at h
      subst h
      exact ⟨rfl, rfl⟩
    | succ k =>
      have := ih k t (by simpa using h)
      have e : fvs (x :: r) = [Value.string x.1, Value.string x.2] ++ fvs r := rfl
      rw [e, show (k + 1) * 2 = 2 + k * 2 by omega, show 2 + k * 2 + 1 = 2 + (k * 2 + 1) by omega, List.getElem?_append_right (by simp), List.getElem?_append_right (by simp)]
      simpa using this

/-- a slice of texts -/
structure Ss (w : World) (s : Sli) (xs : List ByteArray) : Prop where
  len : xs.length = s.n
  rd : Rd w s.A (svs xs)
  cap : s.A = none → s.c = 0
  le : s.n ≤ s.c ∧ s.c ≤ maxLen
theorem Ss.up {w w' : World} {s : Sli} {xs : List ByteArray} (h : Ss w s xs) (hb : Below w.heap.size w w') : Ss w' s xs := ⟨h.len, h.rd.up hb, h.cap, h.le⟩
theorem Ss.cell {w : World} {s : Sli} {xs : List ByteArray} (h : Ss w s xs) {k : Nat} (hk : k < s.n) : ∃ b o x, s.A = some ⟨b, o, none⟩ ∧ b < w.heap.size ∧ xs[k]? = some x ∧ w.cell? ⟨b, o + k, none⟩ = some (.string x) := by
  have hk' : k < xs.length := by rw [h.len]; exact hk
  obtain ⟨b, o, hA, hb, hc⟩ := h.rd (by unfold svs; rw [List.length_map]; omega)
  have hx : xs[k]? = some xs[k] := List.getElem?_eq_getElem hk'
  exact ⟨b, o, xs[k], hA, hb, hx, hc k _ (by unfold svs; rw [List.getElem?_map, hx]; rfl)⟩
/-- a slice of fields -/
structure Fs (w : World) (s : Sli) (xs : List Fd) : Prop where
  len : xs.length = s.n
  rd : Rd w s.A (fvs xs)
  cap : s.A = none → s.c = 0
  le : s.n ≤ s.c ∧ s.c ≤ maxLen
theorem Fs.up {w w' : World} {s : Sli} {xs : List Fd} (h : Fs w s xs) (hb : Below w.heap.size w w') : Fs w' s xs := ⟨h.len, h.rd.up hb, h.cap, h.le⟩
theorem Fs.cell {w : World} {s : Sli} {xs : List Fd} (h : Fs w s xs) {k : Nat} (hk : k < s.n) : ∃ b o x y, s.A = some ⟨b, o, none⟩ ∧ b < w.heap.size ∧ xs[k]? = some (x, y) ∧ w.cell? ⟨b, o + k * 2, none⟩ = some (.string x) ∧ w.cell? ⟨b, o + k * 2 + 1, none⟩ = some (.string y) := by
  have hk' : k < xs.length := by rw [h.len]; exact hk
  obtain ⟨b, o, hA, hb, hc⟩ := h.rd (by rw [fvs_len]; omega)
  have hx : xs[k]? = some xs[k] := List.getElem?_eq_getElem hk'
  obtain ⟨a, d⟩ := fvs_at xs k _ hx
  exact ⟨b, o, xs[k].1, xs[k].2, hA, hb, hx, hc _ _ a, by rw [Nat.add_assoc]; exact hc _ _ d⟩
theorem Row.ss {w : World} {B : Nat} {s : Sli} {xs : List ByteArray} (h : Row w B 9 1 s (svs xs)) : Ss w s xs where
  len := by have := h.1; simpa [svs] using this
  rd := h.rd fun hn => by have := h.1; rw [hn] at this; exact List.eq_nil_of_length_eq_zero (by simpa using this)
  cap hA := by
    rcases h.2 with ⟨h1, _⟩ | ⟨g, cap, cur, h1, _⟩
    · simp only [Value.slice.injEq] at h1
      exact h1.2.2
    · simp only [Value.slice.injEq] at h1
      rw [h1.1] at hA
      cases hA
  le := by
    rcases h.2 with ⟨h1, h2⟩ | ⟨g, cap, cur, h1, _, _, hnc, hm, _⟩
    · rw [h2]
      simp only [Value.slice.injEq] at h1
      rw [h1.2.2]
      exact ⟨Nat.zero_le _, Nat.zero_le _⟩
    · simp only [Value.slice.injEq] at h1
      rw [h1.2.2]
      exact ⟨hnc, hm⟩
end Go.Proofs.YtnkhghjcfhpeiaaGreatDoor

/-
  The walks of the document's own Fits, Add, Mul and value.
-/
namespace Go.Proofs.YtnkhghjcfhpeiaaGreatDoor.Nm
open Go.RowKit

theorem ret_bool {a b : Bool} (h : a = b) : Ending.returned (.bool a) = .returned (.bool b) := by rw [h]
theorem ret_two {x y : Int} {q : Int × Int} (h : q = (x, y)) : Ending.returned (.tuple #[.int .i64 x, .int .i64 y]) = .returned (.tuple #[.int .i64 q.1, .int .i64 q.2]) := by rw [h]

set_option maxHeartbeats 400000 in
theorem rfits_any (n : Int) (w : World) : Calls Tryz.prog 97 #[.int .i64 n] w fun e w' => e = .returned (.bool (fitN n)) ∧ w' = w := by
  go_enter Tryz.func97, Tryz.ntmps97
  go_wp2
  all_goals
    go_ret
    exact ⟨ret_bool (by rw [Bool.eq_iff_iff]; simp [fitN]; try omega), rfl⟩

set_option maxHeartbeats 1000000 in
theorem radd_any (a b : Int) (w : World) : Calls Tryz.prog 141 #[.int .i64 a, .int .i64 b] w fun e w' => e = .returned (.tuple #[.int .i64 (addN a b).1, .int .i64 (addN a b).2]) ∧ w' = w := by
  go_enter Tryz.func141, Tryz.ntmps141
  go_wp2_with fail
  refine (rfits_any a w).mono ?_
  rintro e w' ⟨rfl, rfl⟩
  cases ha : fitN a with
  | false =>
    have HE : Hid (addN a b = (0, 1)) := Lib.hid (by simp [addN, ha])
    clear ha
    go_wp2_with fail
    refine bodyPost_ret (v := .tuple #[.int .i64 0, .int .i64 1]) (by simp [results, Tryz.results141, go_sem]) rfl ?_
    exact ⟨ret_two HE.out, rfl⟩
  | true =>
    obtain ⟨a0, a1⟩ := fit_iff.1 ha
    have HA := Lib.hid ha
    clear ha
    go_wp2_with fail
    refine (rfits_any b _).mono ?_
    rintro e w' ⟨rfl, rfl⟩
    cases hb : fitN b with
    | false =>
      have HE : Hid (addN a b = (0, 1)) := Lib.hid (by simp [addN, hb])
      clear hb
      go_wp2_with fail
      refine bodyPost_ret (v := .tuple #[.int .i64 0, .int .i64 1]) (by simp [results, Tryz.results141, go_sem]) rfl ?_
      exact ⟨ret_two HE.out, rfl⟩
    | true =>
      obtain ⟨b0, b1⟩ := fit_iff.1 hb
      have HB := Lib.hid hb
      clear hb
      by_cases hc : a + b ≤ 9007199254740992
      · have HE : Hid (addN a b = (a + b, 0)) := Lib.hid (by simp [addN, HA.out, HB.out, hc])
        go_wp2
        refine bodyPost_ret (v := .tuple #[.int .i64 (a + b), .int .i64 0]) (by simp [results, Tryz.results141, go_sem]) rfl ?_
        exact ⟨ret_two HE.out, rfl⟩
      · have HE : Hid (addN a b = (0, 3)) := Lib.hid (by simp [addN, HA.out, HB.out, hc])
        go_wp2
        refine bodyPost_ret (v := .tuple #[.int .i64 0, .int .i64 3]) (by simp [results, Tryz.results141, go_sem]) rfl ?_
        exact ⟨ret_two HE.out, rfl⟩

set_option maxHeartbeats 1000000 in
theorem rmul_any (a b : Int) (w : World) : Calls Tryz.prog 140 #[.int .i64 a, .int .i64 b] w fun e w' => e = .returned (.tuple #[.int .i64 (mulN a b).1, .int .i64 (mulN a b).2]) ∧ w' = w := by
  go_enter Tryz.func140, Tryz.ntmps140
  go_wp2_with fail
  refine (rfits_any a w).mono ?_
  rintro e w' ⟨rfl, rfl⟩
  cases ha : fitN a with
  | false =>
    have HE : Hid (mulN a b = (0, 1)) := Lib.hid (by simp [mulN, ha])
    clear ha
    go_wp2_with fail
    refine bodyPost_ret (v := .tuple #[.int .i64 0, .int .i64 1]) (by simp [results, Tryz.results140, go_sem]) rfl ?_
    exact ⟨ret_two HE.out, rfl⟩
  | true =>
    obtain ⟨a0, a1⟩ := fit_iff.1 ha
    have HA := Lib.hid ha
    clear ha
    go_wp2_with fail
    refine (rfits_any b _).mono ?_
    rintro e w' ⟨rfl, rfl⟩
    cases hb : fitN b with
    | false =>
      have HE : Hid (mulN a b = (0, 1)) := Lib.hid (by simp [mulN, hb])
      clear hb
      go_wp2_with fail
      refine bodyPost_ret (v := .tuple #[.int .i64 0, .int .i64 1]) (by simp [results, Tryz.results140, go_sem]) rfl ?_
      exact ⟨ret_two HE.out, rfl⟩
    | true =>
      obtain ⟨b0, b1⟩ := fit_iff.1 hb
      have HB := Lib.hid hb
      clear hb
      by_cases hz : b = 0
      · subst hz
        have HE : Hid (mulN a 0 = (a * 0, 0)) := Lib.hid (by simp [mulN, HA.out, HB.out])
        go_wp2
        refine bodyPost_ret (v := .tuple #[.int .i64 (a * 0), .int .i64 0]) (by simp [results, Tryz.results140, go_sem]) rfl ?_
        exact ⟨ret_two HE.out, rfl⟩
      · have hbp : 0 < b := by omega
        have hmb := mul_big (a := a) (M := 9007199254740992) hbp
        obtain ⟨q, hq⟩ : ∃ q, 9007199254740992 / b = q := ⟨_, rfl⟩
        have hq0 : 0 ≤ q := by rw [← hq]; exact Int.ediv_nonneg (by omega) (by omega)
        have hq1 : q ≤ 9007199254740992 := by rw [← hq]; exact Int.ediv_le_self _ (by omega)
        have t1 : (9007199254740992 : Int).tdiv b = q := by rw [Int.tdiv_eq_ediv_of_nonneg (by omega)]; exact hq
        have t2 : IntKind.i64.wrap q = q := IntWalk.i64_in _ (by omega)
        have hp0 : 0 ≤ a * b := Int.mul_nonneg a0 b0
        rw [hq] at hmb
        by_cases hc : a * b ≤ 9007199254740992
        · have HE : Hid (mulN a b = (a * b, 0)) := Lib.hid (by simp [mulN, HA.out, HB.out, hc])
          have hqa : ¬ q < a := by rw [hmb]; omega
          have t3 : IntKind.i64.wrap (a * b) = a * b := IntWalk.i64_in _ (by omega)
          clear hmb
          go_wp2
          refine bodyPost_ret (v := .tuple #[.int .i64 (a * b), .int .i64 0]) (by simp [results, Tryz.results140, go_sem]) rfl ?_
          exact ⟨ret_two HE.out, rfl⟩
        · have HE : Hid (mulN a b = (0, 3)) := Lib.hid (by simp [mulN, HA.out, HB.out, hc])
          have hqa : q < a := by rw [hmb]; omega
          clear hmb
          go_wp2
          refine bodyPost_ret (v := .tuple #[.int .i64 0, .int .i64 3]) (by simp [results, Tryz.results140, go_sem]) rfl ?_
          exact ⟨ret_two HE.out, rfl⟩

theorem ret_int {a b : Int} (h : a = b) : Ending.returned (.int .i64 a) = .returned (.int .i64 b) := by rw [h]

set_option maxHeartbeats 2000000 in
theorem rvalue_any (c : Nat) (base : Int) (w : World) (hc : c < 256) : Calls Tryz.prog 139 #[.int .u8 (c : Int), .int .i64 base] w fun e w' => e = .returned (.int .i64 (valN c base)) ∧ w' = w := by
  obtain ⟨d, hd⟩ : ∃ d, digN c = d := ⟨_, rfl⟩
  have HV : Hid (valN c base = if base ≤ d then -1 else d) := Lib.hid (by rw [valN, hd])
  have hcase : (48 ≤ c ∧ c ≤ 57 ∧ d = (c : Int) - 48) ∨ (¬ (48 ≤ c ∧ c ≤ 57) ∧ 97 ≤ c ∧ c ≤ 102 ∧ d = (c : Int) - 87) ∨ (¬ (48 ≤ c ∧ c ≤ 57) ∧ ¬ (97 ≤ c ∧ c ≤ 102) ∧ 65 ≤ c ∧ c ≤ 70 ∧ d = (c : Int) - 55) ∨ (¬ (48 ≤ c ∧ c ≤ 57) ∧ ¬ (97 ≤ c ∧ c ≤ 102) ∧ ¬ (65 ≤ c ∧ c ≤ 70) ∧ d = -1) := by
    unfold digN at hd
    split at hd
    · omega
    · split at hd
      · omega
      · split at hd <;> omega
  clear hd
  go_enter Tryz.func139, Tryz.ntmps139
  rcases hcase with ⟨h1, h2, h3⟩ | ⟨h0, h1, h2, h3⟩ | ⟨h0, h4, h1, h2, h3⟩ | ⟨h0, h4, h5, h3⟩
  all_goals
    by_cases hb : base ≤ d
    · rw [if_pos hb] at HV
      subst h3
      go_wp2
      all_goals
        first
        | (go_ret; exact ⟨ret_int HV.out.symm, rfl⟩)
        | (exfalso; omega)
    · rw [if_neg hb] at HV
      subst h3
      go_wp2
      all_goals
        first
        | (go_ret; exact ⟨ret_int (by rw [HV.out]; omega), rfl⟩)
        | (go_ret; exact ⟨ret_int HV.out.symm, rfl⟩)
        | (exfalso; omega)

end Go.Proofs.YtnkhghjcfhpeiaaGreatDoor.Nm

/-
  The walk of the document's own Parse.
-/
namespace Go.Proofs.YtnkhghjcfhpeiaaGreatDoor.Nm
open Go.RowKit

/-- the byte at a place -/
abbrev by_ (s : ByteArray) (k : Nat) : Nat := (s.data[k]?.getD 0).toNat

theorem digs_iff {s : ByteArray} {base : Int} : digsN base s.data.toList = true ↔ ∀ k, k < s.size → 0 ≤ valN (by_ s k) base := by
  unfold digsN
  rw [List.all_eq_true]
  constructor
  · intro h k hk
    have hk' : k < s.data.toList.length := by simpa using hk
    have := h _ (List.getElem_mem hk')
    simp only [decide_eq_true_eq] at this
    have e : s.data[k]?.getD 0 = s.data.toList[k] := by
      rw [← Array.getElem?_toList, List.getElem?_eq_getElem hk']
      rfl
    rw [by_, e]
    exact this
  · intro h c hc
    obtain ⟨k, hk, rfl⟩ := List.mem_iff_getElem.1 hc
    have := h k (by simpa using hk)
    have e : s.data[k]?.getD 0 = s.data.toList[k] := by
      rw [← Array.getElem?_toList, List.getElem?_eq_getElem hk]
      rfl
    rw [by_, e] at this
    simpa using this

theorem take_succ {s : ByteArray} {k : Nat} (hk : k < s.size) : s.data.toList.take (k + 1) = s.data.toList.take k ++ [s.data[k]?.getD 0] := by
  have hk' : k < s.data.toList.length := by simpa using hk
  rw [List.take_add_one, List.getElem?_eq_getElem hk', ← Array.getElem?_toList, List.getElem?_eq_getElem hk']
  rfl

/-- the number of the first bytes is no more than that of all -/
theorem num_le {s : ByteArray} {base : Int} (hb : 1 ≤ base) (hd : digsN base s.data.toList = true) (k : Nat) : 0 ≤ numN base 0 (s.data.toList.take k) ∧ numN base 0 (s.data.toList.take k) ≤ numN base 0 s.data.toList := by
  have h : digsN base (s.data.toList.take k ++ s.data.toList.drop k) = true := by rw [List.take_append_drop]; exact hd
  rw [digs_app, Bool.and_eq_true] at h
  have h1 := num_ge hb _ 0 (by omega) h.1
  refine ⟨h1, ?_⟩
  have h2 := num_ge hb _ _ h1 h.2
  rw [← num_app, List.take_append_drop] at h2
  exact h2

theorem at_by {s : ByteArray} {k : Nat} (hk : k < s.size) : s[k].toNat = by_ s k := by
  have hk' : k < s.data.size := hk
  rw [by_, Array.getElem?_eq_getElem hk']
  rfl

theorem parse_bad (s : ByteArray) (base : Int) (w : World) (hbad : ¬ ((base = 10 ∨ base = 16) ∧ s.toList.isEmpty = false)) : Calls Tryz.prog 129 #[.string s, .int .i64 base] w fun e w' => e = .returned (.tuple #[.int .i64 0, .int .i64 1]) ∧ w' = w := by
  have hcase : s.toList.isEmpty = true ∨ (s.toList.isEmpty = false ∧ (base != 10) = true ∧ (base != 16) = true) := by
    cases he : s.toList.isEmpty with
    | true => exact .inl rfl
    | false =>
      refine .inr ⟨rfl, ?_, ?_⟩
      · simp only [bne_iff_ne, ne_eq]
        exact fun e => hbad ⟨.inl e, he⟩
      · simp only [bne_iff_ne, ne_eq]
        exact fun e => hbad ⟨.inr e, he⟩
  clear hbad
  rcases hcase with h1 | ⟨h1, h2, h3⟩
  all_goals
    go_enter Tryz.func129, Tryz.ntmps129
    go_wp2
    refine bodyPost_ret (v := .tuple #[.int .i64 0, .int .i64 1]) (by simp [results, Tryz.results129, go_sem]) rfl ?_
    exact ⟨rfl, rfl⟩

set_option maxRecDepth 100000 in
set_option maxHeartbeats 4000000 in
theorem parse_good (s : ByteArray) (base : Int) (w : World) (hs : s.size ≤ maxLen) (hne : s.toList.isEmpty = false) (hb : ((base != 10) = false) ∨ ((base != 10) = true ∧ (base != 16) = false)) (hb1 : 1 ≤ base) (hb2 : base ≤ 16) (hsp : parseN s.data.toList base = if digsN base s.data.toList = true then (if numN base 0 s.data.toList ≤ 9007199254740992 then (numN base 0 s.data.toList, 0) else (0, 3)) else (0, 1)) :
    Calls Tryz.prog 129 #[.string s, .int .i64 base] w fun e w' => e = .returned (.tuple #[.int .i64 (parseN s.data.toList base).1, .int .i64 (parseN s.data.toList base).2]) ∧ w' = w := by
  unfold maxLen at hs
  have HSP := Lib.hid hsp
  clear hsp
  rcases hb with hb | ⟨hb, hb'⟩
  all_goals
    go_enter Tryz.func129, Tryz.ntmps129
    go_wp2_with fail
    go_loopw [6] (fun i wr => ∃ k : Nat, k ≤ s.size ∧ i = .int .i64 (k : Int) ∧ Hid (∀ j, j < k → 0 ≤ valN (by_ s j) base) ∧ w = wr) (fun i _ => s.size - (intOf i).toNat)
    case atStart => exact ⟨0, Nat.zero_le _, rfl, Lib.hid (fun j hj => absurd hj (by omega)), rfl⟩
    case round =>
      obtain ⟨k, hk, rfl, HK, rfl⟩ := hrel
      by_cases hlt : k < s.size
      · have hby := at_by hlt
        obtain ⟨v, hv⟩ : ∃ v, valN (by_ s k) base = v := ⟨_, rfl⟩
        have HC : Hid (∀ W, Calls Tryz.prog 139 #[.int .u8 (s[k].toNat : Int), .int .i64 base] W fun e w' => e = .returned (.int .i64 v) ∧ w' = W) := Lib.hid (fun W => by have := rvalue_any s[k].toNat base W (UInt8.toNat_lt _); rw [hby, hv] at this; rw [hby]; exact this)
        have HV := Lib.hid hv
        clear hv hby
        by_cases hneg : v < 0
        · have HE : Hid (parseN s.data.toList base = (0, 1)) := Lib.hid (by rw [HSP.out, if_neg]; rw [digs_iff]; intro hh; have := hh k hlt; rw [HV.out] at this; omega)
          go_wp2_with fail
          refine (HC.out _).mono ?_
          rintro e w' ⟨rfl, rfl⟩
          go_wp2
          refine bodyPost_ret (v := .tuple #[.int .i64 0, .int .i64 1]) (by simp [results, Tryz.results129, go_sem]) rfl ?_
          exact ⟨ret_two HE.out, rfl⟩
        · go_wp2_with fail
          refine (HC.out _).mono ?_
          rintro e w' ⟨rfl, rfl⟩
          go_wp2
          go_roundw
          case rel =>
            refine ⟨k + 1, by omega, by go_num, Lib.hid (fun j hj => ?_), trivial⟩
            by_cases hjk : j < k
            · exact HK.out j hjk
            · have : j = k := by omega
              subst this
              rw [HV.out]
              omega
          case measure => simp [intOf]; omega
      · have : k = s.size := by omega
        subst this
        have HD : Hid (digsN base s.data.toList = true) := Lib.hid (digs_iff.2 HK.out)
        have HS2 : Hid (parseN s.data.toList base = if numN base 0 s.data.toList ≤ 9007199254740992 then (numN base 0 s.data.toList, 0) else (0, 3)) := Lib.hid (by rw [HSP.out, if_pos HD.out])
        clear HSP
        go_wp2_with fail
        go_loopw [8, 7] (fun i m wr => ∃ (k : Nat) (n : Int), k ≤ s.size ∧ i = .int .i64 (k : Int) ∧ m = .int .i64 n ∧ 0 ≤ n ∧ n ≤ 9007199254740992 ∧ Hid (numN base 0 (s.data.toList.take k) = n) ∧ w = wr) (fun i _ _ => s.size - (intOf i).toNat)
        case atStart => exact ⟨0, 0, Nat.zero_le _, rfl, rfl, by omega, by omega, Lib.hid rfl, rfl⟩
        case round =>
          obtain ⟨k, n, hk, rfl, rfl, hn0, hn1, HN, rfl⟩ := hrel
          by_cases hlt : k < s.size
          · have hby := at_by hlt
            obtain ⟨v, hv⟩ : ∃ v, valN (by_ s k) base = v := ⟨_, rfl⟩
            have HC : Hid (∀ W, Calls Tryz.prog 139 #[.int .u8 (s[k].toNat : Int), .int .i64 base] W fun e w' => e = .returned (.int .i64 v) ∧ w' = W) := Lib.hid (fun W => by have := rvalue_any s[k].toNat base W (UInt8.toNat_lt _); rw [hby, hv] at this; rw [hby]; exact this)
            have hv0 : 0 ≤ v := by rw [← hv]; exact HK.out k hlt
            have hv1 : v < base := by rw [← hv]; exact (val_lt (by omega)).2
            have HT : Hid (numN base 0 (s.data.toList.take (k + 1)) = n * base + v) := Lib.hid (by
              rw [take_succ hlt, num_app, HN.out]
              show n * base + valN (by_ s k) base = _
              rw [hv])
            have hle := (num_le hb1 HD.out (k + 1)).2
            rw [HT.out] at hle
            have hp0 : 0 ≤ n * base := Int.mul_nonneg hn0 (by omega)
            clear hv hby
            by_cases hp : n * base ≤ 9007199254740992
            · have HM : Hid (∀ W, Calls Tryz.prog 140 #[.int .i64 n, .int .i64 base] W fun e w' => e = .returned (.tuple #[.int .i64 (n * base), .int .i64 0]) ∧ w' = W) := Lib.hid (fun W => by
                have := rmul_any n base W
                rw [show mulN n base = (n * base, 0) by rw [mulN, if_pos (by simp [fitN]; omega), if_pos hp]] at this
                exact this)
              by_cases hq : n * base + v ≤ 9007199254740992
              · have HA : Hid (∀ W, Calls Tryz.prog 141 #[.int .i64 (n * base), .int .i64 v] W fun e w' => e = .returned (.tuple #[.int .i64 (n * base + v), .int .i64 0]) ∧ w' = W) := Lib.hid (fun W => by
                  have := radd_any (n * base) v W
                  rw [show addN (n * base) v = (n * base + v, 0) by rw [addN, if_pos (by simp [fitN]; omega), if_pos hq]] at this
                  exact this)
                generalize n * base = p at *
                go_wp2_with fail
                refine (HM.out _).mono ?_
                rintro e w' ⟨rfl, rfl⟩
                go_wp2_with fail
                refine (HC.out _).mono ?_
                rintro e w' ⟨rfl, rfl⟩
                go_wp2_with fail
                refine (HA.out _).mono ?_
                rintro e w' ⟨rfl, rfl⟩
                go_wp2
                go_roundw
                case rel => exact ⟨k + 1, p + v, by omega, by go_num, rfl, by omega, hq, HT, trivial⟩
                case measure => simp [intOf]; omega
              · have HE : Hid (parseN s.data.toList base = (0, 3)) := Lib.hid (by rw [HS2.out, if_neg (by omega)])
                have HA : Hid (∀ W, Calls Tryz.prog 141 #[.int .i64 (n * base), .int .i64 v] W fun e w' => e = .returned (.tuple #[.int .i64 0, .int .i64 3]) ∧ w' = W) := Lib.hid (fun W => by
                  have := radd_any (n * base) v W
                  rw [show addN (n * base) v = (0, 3) by rw [addN, if_pos (by simp [fitN]; omega), if_neg hq]] at this
                  exact this)
                generalize n * base = p at *
                go_wp2_with fail
                refine (HM.out _).mono ?_
                rintro e w' ⟨rfl, rfl⟩
                go_wp2_with fail
                refine (HC.out _).mono ?_
                rintro e w' ⟨rfl, rfl⟩
                go_wp2_with fail
                refine (HA.out _).mono ?_
                rintro e w' ⟨rfl, rfl⟩
                go_wp2
                refine bodyPost_ret (v := .tuple #[.int .i64 0, .int .i64 3]) (by simp [results, Tryz.results129, go_sem]) rfl ?_
                exact ⟨ret_two HE.out, rfl⟩
            · have HE : Hid (parseN s.data.toList base = (0, 3)) := Lib.hid (by rw [HS2.out, if_neg (by omega)])
              have HM : Hid (∀ W, Calls Tryz.prog 140 #[.int .i64 n, .int .i64 base] W fun e w' => e = .returned (.tuple #[.int .i64 0, .int .i64 3]) ∧ w' = W) := Lib.hid (fun W => by
                have := rmul_any n base W
                rw [show mulN n base = (0, 3) by rw [mulN, if_pos (by simp [fitN]; omega), if_neg hp]] at this
                exact this)
              have HA : Hid (∀ W, Calls Tryz.prog 141 #[.int .i64 0, .int .i64 v] W fun e w' => e = .returned (.tuple #[.int .i64 v, .int .i64 0]) ∧ w' = W) := Lib.hid (fun W => by
                have := radd_any 0 v W
                rw [show addN 0 v = (v, 0) by rw [addN, if_pos (by simp [fitN]; omega), if_pos (by omega)]; simp] at this
                exact this)
              go_wp2_with fail
              refine (HM.out _).mono ?_
              rintro e w' ⟨rfl, rfl⟩
              go_wp2_with fail
              refine (HC.out _).mono ?_
              rintro e w' ⟨rfl, rfl⟩
              go_wp2_with fail
              refine (HA.out _).mono ?_
              rintro e w' ⟨rfl, rfl⟩
              go_wp2
              refine bodyPost_ret (v := .tuple #[.int .i64 0, .int .i64 3]) (by simp [results, Tryz.results129, go_sem]) rfl ?_
              exact ⟨ret_two HE.out, rfl⟩
          · have : k = s.size := by omega
            subst this
            have hall : s.data.toList.take s.size = s.data.toList := List.take_of_length_le (by simp)
            have HE : Hid (parseN s.data.toList base = (n, 0)) := Lib.hid (by
              have := HN.out
              rw [hall] at this
              rw [HS2.out, this, if_pos hn1])
            clear hall
            go_wp2
            refine bodyPost_ret (v := .tuple #[.int .i64 n, .int .i64 0]) (by simp [results, Tryz.results129, go_sem]) rfl ?_
            exact ⟨ret_two HE.out, rfl⟩

theorem rparse_any (s : ByteArray) (base : Int) (w : World) (hs : s.size ≤ maxLen) : Calls Tryz.prog 129 #[.string s, .int .i64 base] w fun e w' => e = .returned (.tuple #[.int .i64 (parseN s.data.toList base).1, .int .i64 (parseN s.data.toList base).2]) ∧ w' = w := by
  by_cases hg : (base = 10 ∨ base = 16) ∧ s.toList.isEmpty = false
  · refine parse_good s base w hs hg.2 ?_ (by omega) (by omega) ?_
    · rcases hg.1 with rfl | rfl
      · exact .inl rfl
      · exact .inr ⟨rfl, rfl⟩
    · have hne : s.data.toList ≠ [] := by
        intro e
        have h2 := hg.2
        rw [Go.ByteArray.toList_eq, e] at h2
        cases h2
      rw [parseN]
      by_cases hd : digsN base s.data.toList = true
      · rw [if_pos ⟨hg.1, hne, hd⟩, if_pos hd]
      · rw [if_neg (fun hh => hd hh.2.2), if_neg hd]
  · have he : parseN s.data.toList base = (0, 1) := by
      rw [parseN, if_neg]
      rintro ⟨h1, h2, _⟩
      refine hg ⟨h1, ?_⟩
      rw [Go.ByteArray.toList_eq]
      cases hd : s.data.toList with
      | nil => exact absurd hd h2
      | cons x r => rfl
    rw [he]
    exact parse_bad s base w hg

end Go.Proofs.YtnkhghjcfhpeiaaGreatDoor.Nm

/-
  The walks of num's own Fits, isBase, bounded, Add, Mul and digit.
-/
namespace Go.Proofs.YtnkhghjcfhpeiaaGreatDoor.Nm
open Go.RowKit

set_option maxHeartbeats 400000 in
theorem fits_any (n : Int) (w : World) : Calls Tryz.prog 117 #[.int .i64 n] w fun e w' => e = .returned (.bool (fitN n)) ∧ w' = w := by
  go_enter Tryz.func117, Tryz.ntmps117
  go_wp2
  all_goals
    go_ret
    exact ⟨ret_bool (by rw [Bool.eq_iff_iff]; simp [fitN]; try omega), rfl⟩

/-- is it a base? -/
def baseN (b : Int) : Bool := b == 10 || b == 16

set_option maxHeartbeats 400000 in
theorem isBase_any (b : Int) (w : World) : Calls Tryz.prog 118 #[.int .i64 b] w fun e w' => e = .returned (.bool (baseN b)) ∧ w' = w := by
  go_enter Tryz.func118, Tryz.ntmps118
  go_wp2
  all_goals
    go_ret
    exact ⟨ret_bool (by rw [Bool.eq_iff_iff]; simp [baseN]; try omega), rfl⟩

/-- a number, or that it is too big -/
def boundN (n : Int) : Int × Int := if fitN n then (n, 0) else (0, 3)

set_option maxHeartbeats 400000 in
theorem bounded_any (n : Int) (w : World) : Calls Tryz.prog 156 #[.int .i64 n] w fun e w' => e = .returned (.tuple #[.int .i64 (boundN n).1, .int .i64 (boundN n).2]) ∧ w' = w := by
  go_enter Tryz.func156, Tryz.ntmps156
  go_wp2_with fail
  refine (fits_any n w).mono ?_
  rintro e w' ⟨rfl, rfl⟩
  cases hf : fitN n with
  | false =>
    have HE : Hid (boundN n = (0, 3)) := Lib.hid (by simp [boundN, hf])
    clear hf
    go_wp2_with fail
    refine bodyPost_ret (v := .tuple #[.int .i64 0, .int .i64 3]) (by simp [results, Tryz.results156, go_sem]) rfl ?_
    exact ⟨ret_two HE.out, rfl⟩
  | true =>
    have HE : Hid (boundN n = (n, 0)) := Lib.hid (by simp [boundN, hf])
    clear hf
    go_wp2_with fail
    refine bodyPost_ret (v := .tuple #[.int .i64 n, .int .i64 0]) (by simp [results, Tryz.results156, go_sem]) rfl ?_
    exact ⟨ret_two HE.out, rfl⟩

/-- a digit is handed back, or that it is none -/
def DigEnds (v : Int) (w : World) (e : Ending) (w' : World) : Prop := e = .returned (.tuple #[.int .i64 (if v < 0 then 0 else v), .bool (decide (0 ≤ v))]) ∧ w' = w

theorem ret_dig {x v : Int} {q : Bool} (h : x = if v < 0 then 0 else v) (h2 : q = decide (0 ≤ v)) : Ending.returned (.tuple #[.int .i64 x, .bool q]) = .returned (.tuple #[.int .i64 (if v < 0 then 0 else v), .bool (decide (0 ≤ v))]) := by rw [h, h2]

set_option maxHeartbeats 2000000 in
theorem digit_any (c : Nat) (base : Int) (w : World) (hc : c < 256) : Calls Tryz.prog 155 #[.int .u8 (c : Int), .int .i64 base] w (DigEnds (valN c base) w) := by
  obtain ⟨d, hd⟩ : ∃ d, digN c = d := ⟨_, rfl⟩
  have HV : Hid (valN c base = if base ≤ d then -1 else d) := Lib.hid (by rw [valN, hd])
  have hcase : (97 ≤ c ∧ c ≤ 102 ∧ d = (c : Int) - 87) ∨ (¬ (97 ≤ c ∧ c ≤ 102) ∧ 65 ≤ c ∧ c ≤ 70 ∧ d = (c : Int) - 55) ∨ (¬ (97 ≤ c ∧ c ≤ 102) ∧ ¬ (65 ≤ c ∧ c ≤ 70) ∧ 48 ≤ c ∧ c ≤ 57 ∧ d = (c : Int) - 48) ∨ (¬ (48 ≤ c ∧ c ≤ 57) ∧ ¬ (97 ≤ c ∧ c ≤ 102) ∧ ¬ (65 ≤ c ∧ c ≤ 70) ∧ d = -1) := by
    unfold digN at hd
    split at hd
    · omega
    · split at hd
      · omega
      · split at hd <;> omega
  clear hd
  go_enter Tryz.func155, Tryz.ntmps155
  rcases hcase with ⟨h1, h2, h3⟩ | ⟨h0, h1, h2, h3⟩ | ⟨h0, h4, h1, h2, h3⟩ | ⟨h0, h4, h5, h3⟩
  all_goals
    by_cases hb : base ≤ d
    · rw [if_pos hb] at HV
      subst h3
      go_wp2
      all_goals
        first
        | (exfalso; omega)
        | (refine bodyPost_ret (v := .tuple #[.int .i64 0, .bool false]) (by simp [results, Tryz.results155, go_sem]) rfl ?_; exact ⟨ret_dig (by rw [HV.out]; rfl) (by rw [HV.out]; rfl), rfl⟩)
    · rw [if_neg hb] at HV
      subst h3
      go_wp2
      all_goals
        first
        | (exfalso; omega)
        | (refine bodyPost_ret (v := .tuple #[.int .i64 0, .bool false]) (by simp [results, Tryz.results155, go_sem]) rfl ?_; exact ⟨ret_dig (by rw [HV.out]; rfl) (by rw [HV.out]; rfl), rfl⟩)
        | (refine bodyPost_ret (v := .tuple #[.int .i64 _, .bool true]) (by simp [results, Tryz.results155, go_sem]; rfl) rfl ?_; exact ⟨ret_dig (by rw [HV.out, if_neg (by omega)]; try omega) (by rw [HV.out]; simp; try omega), rfl⟩)

end Go.Proofs.YtnkhghjcfhpeiaaGreatDoor.Nm

/-
  The walk of num's own Parse.
-/
namespace Go.Proofs.YtnkhghjcfhpeiaaGreatDoor.Nm
open Go.RowKit

/-- a number that is held where it is too big -/
def capN (n : Int) : Int := if n ≤ 9007199254740992 then n else 9007199254740993

theorem cap_step {n v base : Int} (hv : 0 ≤ v) (hb : 1 ≤ base) : capN (capN n * base + v) = capN (n * base + v) := by
  unfold capN
  by_cases h : n ≤ 9007199254740992
  · rw [if_pos h]
  · rw [if_neg h]
    have h1 : 9007199254740993 * base ≤ n * base := Int.mul_le_mul_of_nonneg_right (by omega) (by omega)
    have h2 : 9007199254740993 * 1 ≤ 9007199254740993 * base := Int.mul_le_mul_of_nonneg_left hb (by omega)
    rw [if_neg (by omega), if_neg (by omega)]
theorem cap_bd {n : Int} (h0 : 0 ≤ n) : 0 ≤ capN n ∧ capN n ≤ 9007199254740993 := by unfold capN; split <;> omega
theorem bound_cap {n : Int} (h0 : 0 ≤ n) : boundN (capN n) = if n ≤ 9007199254740992 then (n, 0) else (0, 3) := by
  unfold capN
  split
  · rw [boundN, if_pos (fit_iff.2 (by omega))]
  · rw [boundN, if_neg (by rw [fit_iff]; omega)]

set_option maxHeartbeats 1000000 in
theorem parse_bad' (s : ByteArray) (base : Int) (w : World) (hbad : baseN base = false ∨ (baseN base = true ∧ s.toList.isEmpty = true)) : Calls Tryz.prog 152 #[.string s, .int .i64 base] w fun e w' => e = .returned (.tuple #[.int .i64 0, .int .i64 1]) ∧ w' = w := by
  rcases hbad with h1 | ⟨h1, h2⟩
  all_goals
    go_enter Tryz.func152, Tryz.ntmps152
    go_wp2_with fail
    refine (isBase_any base _).mono ?_
    rintro e w' ⟨rfl, rfl⟩
    rw [h1]
    go_wp2
    refine bodyPost_ret (v := .tuple #[.int .i64 0, .int .i64 1]) (by simp [results, Tryz.results152, go_sem]) rfl ?_
    exact ⟨rfl, rfl⟩

set_option maxRecDepth 100000 in
set_option maxHeartbeats 4000000 in
theorem parse_good' (s : ByteArray) (base : Int) (w : World) (hs : s.size ≤ maxLen) (hne : s.toList.isEmpty = false) (hb : baseN base = true) (hb1 : 1 ≤ base) (hb2 : base ≤ 16) (hsp : parseN s.data.toList base = if digsN base s.data.toList = true then (if numN base 0 s.data.toList ≤ 9007199254740992 then (numN base 0 s.data.toList, 0) else (0, 3)) else (0, 1)) :
    Calls Tryz.prog 152 #[.string s, .int .i64 base] w fun e w' => e = .returned (.tuple #[.int .i64 (parseN s.data.toList base).1, .int .i64 (parseN s.data.toList base).2]) ∧ w' = w := by
  unfold maxLen at hs
  have HSP := Lib.hid hsp
  clear hsp
  go_enter Tryz.func152, Tryz.ntmps152
  go_wp2_with fail
  refine (isBase_any base _).mono ?_
  rintro e w1 ⟨rfl, rfl⟩
  rw [hb]
  go_wp2_with fail
  go_loopw [19, 6] (fun i m wr => ∃ (k : Nat) (n : Int), k ≤ s.size ∧ i = .int .i64 (k : Int) ∧ m = .int .i64 n ∧ 0 ≤ n ∧ n ≤ 9007199254740993 ∧ Hid ((∀ j, j < k → 0 ≤ valN (by_ s j) base) ∧ 0 ≤ numN base 0 (s.data.toList.take k) ∧ n = capN (numN base 0 (s.data.toList.take k))) ∧ w1 = wr) (fun i _ _ => s.size - (intOf i).toNat)
  case atStart => exact ⟨0, 0, Nat.zero_le _, rfl, rfl, by omega, by omega, Lib.hid ⟨fun j hj => absurd hj (by omega), by simp [numN], rfl⟩, rfl⟩
  case round =>
    obtain ⟨k, n, hk, rfl, rfl, hn0, hn1, HN, rfl⟩ := hrel
    by_cases hlt : k < s.size
    · have hby := at_by hlt
      obtain ⟨v, hv⟩ : ∃ v, valN (by_ s k) base = v := ⟨_, rfl⟩
      have HC : Hid (∀ W, Calls Tryz.prog 155 #[.int .u8 (s[k].toNat : Int), .int .i64 base] W (DigEnds v W)) := Lib.hid (fun W => by have := digit_any s[k].toNat base W (UInt8.toNat_lt _); rw [hby, hv] at this; rw [hby]; exact this)
      have hv1 : v < base := by rw [← hv]; exact (val_lt (by omega)).2
      have HV := Lib.hid hv
      clear hv hby
      by_cases hneg : v < 0
      · have HE : Hid (parseN s.data.toList base = (0, 1)) := Lib.hid (by rw [HSP.out, if_neg]; rw [digs_iff]; intro hh; have := hh k hlt; rw [HV.out] at this; omega)
        go_wp2_with fail
        refine (HC.out _).mono ?_
        rintro e w' ⟨rfl, rfl⟩
        rw [if_pos (by omega), decide_eq_false (by omega)]
        go_wp2
        refine bodyPost_ret (v := .tuple #[.int .i64 0, .int .i64 1]) (by simp [results, Tryz.results152, go_sem]) rfl ?_
        exact ⟨ret_two HE.out, rfl⟩
      · have hp0 : 0 ≤ n * base := Int.mul_nonneg hn0 (by omega)
        have hp1 : n * base ≤ 9007199254740993 * 16 := Int.le_trans (Int.mul_le_mul_of_nonneg_left hb2 hn0) (Int.mul_le_mul_of_nonneg_right hn1 (by omega))
        have HT : Hid (numN base 0 (s.data.toList.take (k + 1)) = numN base 0 (s.data.toList.take k) * base + v) := Lib.hid (by
          rw [take_succ hlt, num_app]
          show numN base 0 (s.data.toList.take k) * base + valN (by_ s k) base = _
          rw [HV.out])
        have HM : Hid (capN (n * base + v) = capN (numN base 0 (s.data.toList.take (k + 1)))) := Lib.hid (by
          rw [HT.out, HN.out.2.2]
          exact cap_step (by omega) hb1)
        have HP : Hid (0 ≤ numN base 0 (s.data.toList.take (k + 1))) := Lib.hid (by
          rw [HT.out]
          have := Int.mul_nonneg HN.out.2.1 (show 0 ≤ base by omega)
          omega)
        go_wp2_with fail
        refine (HC.out _).mono ?_
        rintro e w' ⟨rfl, rfl⟩
        rw [if_neg (by omega), decide_eq_true (by omega)]
        have hc := cap_bd (n := n * base + v) (by omega)
        have HW : Hid ((if 9007199254740993 < n * base + v then 9007199254740993 else n * base + v) = capN (n * base + v)) := Lib.hid (by
          rw [capN]
          split <;> split <;> omega)
        have HW2 : Hid (min (n * base + v) 9007199254740993 = capN (n * base + v)) := Lib.hid (by
          rw [capN]
          split <;> omega)
        go_wp2
        refine ⟨⟨k + 1, capN (n * base + v), by omega, by go_num, by first | rw [HW.out] | rw [HW2.out], hc.1, hc.2, Lib.hid ⟨fun j hj => ?_, HP.out, HM.out⟩, trivial⟩, by simp [intOf]; omega⟩
        by_cases hjk : j < k
        · exact HN.out.1 j hjk
        · have : j = k := by omega
          subst this
          rw [HV.out]
          omega
    · have : k = s.size := by omega
      subst this
      have hall : s.data.toList.take s.size = s.data.toList := List.take_of_length_le (by simp)
      have HE : Hid (parseN s.data.toList base = boundN n) := Lib.hid (by
        obtain ⟨h1, h2, h3⟩ := HN.out
        rw [hall] at h2 h3
        rw [HSP.out, if_pos (digs_iff.2 h1), h3, bound_cap h2])
      clear hall
      go_wp2_with fail
      refine (bounded_any n _).mono ?_
      rintro e w' ⟨rfl, rfl⟩
      go_wp2
      refine bodyPost_ret (v := .tuple #[.int .i64 (boundN n).1, .int .i64 (boundN n).2]) (by simp [results, Tryz.results152, go_sem]) rfl ?_
      exact ⟨ret_two HE.out, rfl⟩

theorem parse_any (s : ByteArray) (base : Int) (w : World) (hs : s.size ≤ maxLen) : Calls Tryz.prog 152 #[.string s, .int .i64 base] w fun e w' => e = .returned (.tuple #[.int .i64 (parseN s.data.toList base).1, .int .i64 (parseN s.data.toList base).2]) ∧ w' = w := by
  by_cases hg : (base = 10 ∨ base = 16) ∧ s.toList.isEmpty = false
  · refine parse_good' s base w hs hg.2 (by rcases hg.1 with rfl | rfl <;> rfl) (by omega) (by omega) ?_
    have hne : s.data.toList ≠ [] := by
      intro e
      have h2 := hg.2
      rw [Go.ByteArray.toList_eq, e] at h2
      cases h2
    rw [parseN]
    by_cases hd : digsN base s.data.toList = true
    · rw [if_pos ⟨hg.1, hne, hd⟩, if_pos hd]
    · rw [if_neg (fun hh => hd hh.2.2), if_neg hd]
  · have he : parseN s.data.toList base = (0, 1) := by
      rw [parseN, if_neg]
      rintro ⟨h1, h2, _⟩
      refine hg ⟨h1, ?_⟩
      rw [Go.ByteArray.toList_eq]
      cases hd : s.data.toList with
      | nil => exact absurd hd h2
      | cons x r => rfl
    rw [he]
    refine parse_bad' s base w ?_
    cases hb : baseN base with
    | false => exact .inl rfl
    | true =>
      refine .inr ⟨rfl, ?_⟩
      cases hi : s.toList.isEmpty with
      | true => rfl
      | false => exact absurd ⟨by simpa [baseN] using hb, hi⟩ hg

end Go.Proofs.YtnkhghjcfhpeiaaGreatDoor.Nm

/-
  Texts as lists of bytes.
-/
namespace Go.Proofs.YtnkhghjcfhpeiaaGreatDoor
open Go.RowKit
/-- a text of those bytes -/
def tb (l : Bs) : ByteArray := ⟨l.toArray⟩
theorem dl_tb (l : Bs) : dl (tb l) = l := dl_mk l
theorem tb_dl (s : ByteArray) : tb (dl s) = s := dl_inj (dl_mk _)
theorem tb_of {s : ByteArray} {l : Bs} (h : dl s = l) : s = tb l := by rw [← h, tb_dl]
theorem tb_size (l : Bs) : (tb l).size = l.length := by rw [← dl_len, dl_tb]
theorem tb_app (a b : Bs) : tb a ++ tb b = tb (a ++ b) := dl_inj (by rw [dl_app, dl_tb, dl_tb, dl_tb])
theorem tb_nil : tb [] = ⟨#[]⟩ := rfl
theorem tb_ext (l : Bs) (i j : Nat) : (tb l).extract i j = tb ((l.take j).drop i) := dl_inj (by rw [dl_ext, dl_tb, dl_tb])
end Go.Proofs.YtnkhghjcfhpeiaaGreatDoor

/-
  Values in memory: which list-made value a struct with its slices stands for.
-/
namespace Go.Proofs.YtnkhghjcfhpeiaaGreatDoor
open Go.RowKit

/-- the cells at address A read as cs; the block is one of those -/
def RdP (w : World) (P : Nat → Prop) (A : Option Addr) (cs : List Value) : Prop :=
  0 < cs.length → ∃ b o, A = some ⟨b, o, none⟩ ∧ P b ∧ b < w.heap.size ∧ ∀ (j : Nat) u, cs[j]? = some u → w.cell? ⟨b, o + j, none⟩ = some u
/-- a slice of elements of sz cells each, that reads as cs -/
structure SlP (w : World) (P : Nat → Prop) (S : Sli) (sz : Nat) (cs : List Value) : Prop where
  len : cs.length = S.n * sz
  rd : RdP w P S.A cs
  cap : S.A = none → S.c = 0
  le : S.n ≤ S.c ∧ S.c ≤ maxLen
mutual
/-- the struct X stands for that value -/
def JV (w : World) (P : Nat → Prop) : Jv → Value → Prop
  | .mk k t ks vs, X => ∃ (K S : Sli) (cs : List Value), X = .agg #[.int .i64 k, .string (tb t), .slice K.A K.n K.c, .slice S.A S.n S.c] ∧ SlP w P K 1 (svs (ks.map tb)) ∧ SlP w P S 4 cs ∧ JL w P vs cs
/-- these cells, four by four, stand for those values -/
def JL (w : World) (P : Nat → Prop) : List Jv → List Value → Prop
  | [], cs => cs = []
  | v :: r, cs => ∃ (a b c d : Value) (cs' : List Value), cs = a :: b :: c :: d :: cs' ∧ JV w P v (.agg #[a, b, c, d]) ∧ JL w P r cs'
end
theorem JL.len {w : World} {P : Nat → Prop} : ∀ {vs : List Jv} {cs : List Value}, JL w P vs cs → cs.length = vs.length * 4
  | [], cs, h => by
    rw [JL] at h
    rw [h]
    rfl
  | v :: r, cs, h => by
    rw [JL] at h
    obtain ⟨a, b, c, d, cs', rfl, _, h2⟩ := h
    have := JL.len h2
    simp only [List.length_cons]
    omega
/-- a world in which all those blocks are as they were -/
structure Keeps (P P' : Nat → Prop) (w w' : World) : Prop where
  cell : ∀ b, P b → b < w.heap.size → ∀ o, w'.cell? ⟨b, o, none⟩ = w.cell? ⟨b, o, none⟩
  size : w.heap.size ≤ w'.heap.size
  to : ∀ b, P b → b < w.heap.size → P' b
section
variable {w w' : World} {P P' : Nat → Prop}
theorem Keeps.up (h : Below w.heap.size w w') (hP : ∀ b, P b → b < w.heap.size → P' b) : Keeps P P' w w' := ⟨fun _ _ hb o => h.cell (p := ⟨_, o, none⟩) hb, h.size, hP⟩
theorem RdP.to {A : Option Addr} {cs : List Value} (h : RdP w P A cs) (hk : Keeps P P' w w') : RdP w' P' A cs := by
  intro hx
  obtain ⟨b, o, rfl, hp, hl, hc⟩ := h hx
  exact ⟨b, o, rfl, hk.to b hp hl, Nat.lt_of_lt_of_le hl hk.size, fun j u hj => (hk.cell b hp hl (o + j)).trans (hc j u hj)⟩
theorem SlP.to {S : Sli} {sz : Nat} {cs : List Value} (h : SlP w P S sz cs) (hk : Keeps P P' w w') : SlP w' P' S sz cs := ⟨h.len, h.rd.to hk, h.cap, h.le⟩
mutual
theorem JV.to (hk : Keeps P P' w w') : ∀ (v : Jv) (X : Value), JV w P v X → JV w' P' v X
  | .mk k t ks vs, X, h => by
    rw [JV] at h ⊢
    obtain ⟨K, S, cs, h1, h2, h3, h4⟩ := h
    exact ⟨K, S, cs, h1, h2.to hk, h3.to hk, JL.to hk vs cs h4⟩
theorem JL.to (hk : Keeps P P' w w') : ∀ (vs : List Jv) (cs : List Value), JL w P vs cs → JL w' P' vs cs
  | [], cs, h => by
    rw [JL] at h ⊢
    exact h
  | v :: r, cs, h => by
    rw [JL] at h ⊢
    obtain ⟨a, b, c, d, cs', h1, h2, h3⟩ := h
    exact ⟨a, b, c, d, cs', h1, JV.to hk v _ h2, JL.to hk r cs' h3⟩
end
theorem JV.up {v : Jv} {X : Value} (h : JV w P v X) (hb : Below w.heap.size w w') : JV w' P v X := JV.to (Keeps.up hb (fun _ h _ => h)) v X h
theorem JL.up {vs : List Jv} {cs : List Value} (h : JL w P vs cs) (hb : Below w.heap.size w w') : JL w' P vs cs := JL.to (Keeps.up hb (fun _ h _ => h)) vs cs h
theorem SlP.up {S : Sli} {sz : Nat} {cs : List Value} (h : SlP w P S sz cs) (hb : Below w.heap.size w w') : SlP w' P S sz cs := h.to (Keeps.up hb (fun _ h _ => h))
theorem JL.app : ∀ {vs : List Jv} {cs : List Value} {v : Jv} {a b c d : Value}, JL w P vs cs → JV w P v (.agg #[a, b, c, d]) → JL w P (vs ++ [v]) (cs ++ [a, b, c, d])
  | [], cs, v, a, b, c, d, h, hv => by
    rw [JL] at h
    subst h
    rw [List.nil_append, List.nil_append, JL]
    exact ⟨a, b, c, d, [], rfl, hv, by rw [JL]⟩
  | u :: r, cs, v, a, b, c, d, h, hv => by
    rw [JL] at h
    obtain ⟨a', b', c', d', cs', rfl, h2, h3⟩ := h
    rw [List.cons_append, JL]
    exact ⟨a', b', c', d', cs' ++ [a, b, c, d], rfl, h2, JL.app h3 hv⟩
theorem JL.at : ∀ {vs : List Jv} {cs : List Value} {i : Nat} {v : Jv}, JL w P vs cs → vs[i]? = some v → ∃ a b c d, cs[i * 4]? = some a ∧ cs[i * 4 + 1]? = some b ∧ cs[i * 4 + 2]? = some c ∧ cs[i * 4 + 3]? = some d ∧ JV w P v (.agg #[a, b, c, d])
  | [], cs, i, v, h, hi => by simp at hi
  | u :: r, cs, 0, v, h, hi => by
    rw [JL] at h
    obtain ⟨a, b, c, d, cs', rfl, h2, h3⟩ := h
    simp at hi
    subst hi
    exact ⟨a, b, c, d, rfl, rfl, rfl, rfl, h2⟩
  | u :: r, cs, i + 1, v, h, hi => by
    rw [JL] at h
    obtain ⟨a, b, c, d, cs', rfl, h2, h3⟩ := h
    obtain ⟨x, y, z, q, k1, k2, k3, k4, k5⟩ := JL.at (i := i) h3 (by simpa using hi)
    refine ⟨x, y, z, q, ?_, ?_, ?_, ?_, k5⟩
    · rw [show (i + 1) * 4 = i * 4 + 4 by omega]; simpa using k1
    · rw [show (i + 1) * 4 + 1 = i * 4 + 1 + 4 by omega]; simpa using k2
    · rw [show (i + 1) * 4 + 2 = i * 4 + 2 + 4 by omega]; simpa using k3
    · rw [show (i + 1) * 4 + 3 = i * 4 + 3 + 4 by omega]; simpa using k4
/-- one of a slice's texts -/
theorem SlP.text {K : Sli} {ks : List Bs} {i : Nat} {k : Bs} (h : SlP w P K 1 (svs (ks.map tb))) (hi : ks[i]? = some k) : ∃ b o, K.A = some ⟨b, o, none⟩ ∧ w.cell? ⟨b, o + i, none⟩ = some (.string (tb k)) := by
  have hl := (List.getElem?_eq_some_iff.1 hi).1
  obtain ⟨b, o, hA, _, _, hc⟩ := h.rd (by unfold svs; rw [List.length_map, List.length_map]; omega)
  exact ⟨b, o, hA, hc i _ (by unfold svs; rw [List.getElem?_map, List.getElem?_map, hi]; rfl)⟩
/-- one of a slice's values -/
theorem SlP.kid {S : Sli} {vs : List Jv} {cs : List Value} {i : Nat} {v : Jv} (h : SlP w P S 4 cs) (hL : JL w P vs cs) (hi : vs[i]? = some v) : ∃ b o x y z u, S.A = some ⟨b, o, none⟩ ∧ w.cell? ⟨b, o + i * 4, none⟩ = some x ∧ w.cell? ⟨b, o + i * 4 + 1, none⟩ = some y ∧ w.cell? ⟨b, o + i * 4 + 2, none⟩ = some z ∧ w.cell? ⟨b, o + i * 4 + 3, none⟩ = some u ∧ JV w P v (.agg #[x, y, z, u]) := by
  have hl := (List.getElem?_eq_some_iff.1 hi).1
  obtain ⟨b, o, hA, _, _, hc⟩ := h.rd (by rw [hL.len]; omega)
  obtain ⟨x, y, z, u, k1, k2, k3, k4, k5⟩ := hL.at hi
  exact ⟨b, o, x, y, z, u, hA, hc _ _ k1, by rw [Nat.add_assoc]; exact hc _ _ k2, by rw [Nat.add_assoc]; exact hc _ _ k3, by rw [Nat.add_assoc]; exact hc _ _ k4, k5⟩
theorem SlP.num {S : Sli} {vs : List Jv} {cs : List Value} (h : SlP w P S 4 cs) (hL : JL w P vs cs) : S.n = vs.length := by
  have h1 := h.len
  have h2 := hL.len
  omega
theorem SlP.keys {K : Sli} {ks : List Bs} (h : SlP w P K 1 (svs (ks.map tb))) : K.n = ks.length := by
  have h1 := h.len
  unfold svs at h1
  rw [List.length_map, List.length_map] at h1
  omega
end
end Go.Proofs.YtnkhghjcfhpeiaaGreatDoor

/-
  All blocks but one stand.
-/
namespace Go.Proofs.YtnkhghjcfhpeiaaGreatDoor
open Go.RowKit

/-- all blocks that were there, but one, are as they were -/
structure But (g : Nat) (w w' : World) : Prop where
  os : w'.os = w.os
  tape : w'.tape = w.tape
  output : w'.output = w.output
  size : w.heap.size ≤ w'.heap.size
  block : ∀ k, k < w.heap.size → k ≠ g → w'.heap[k]? = w.heap[k]?
theorem But.refl (g : Nat) (w : World) : But g w w := ⟨rfl, rfl, rfl, Nat.le_refl _, fun _ _ _ => rfl⟩
theorem But.on {g : Nat} {w w1 w2 : World} (h : But g w w1) (k : But g w1 w2) : But g w w2 :=
  ⟨k.os.trans h.os, k.tape.trans h.tape, k.output.trans h.output, Nat.le_trans h.size k.size, fun i hi hn => (k.block i (Nat.lt_of_lt_of_le hi h.size) hn).trans (h.block i hi hn)⟩
theorem But.of {g : Nat} {w w' : World} (h : Below w.heap.size w w') : But g w w' := ⟨h.os, h.tape, h.output, h.size, fun k hk _ => h.block k hk⟩
theorem Box.but {w w' : World} {g k : Nat} {t : TypeId} {cs : Array Value} (h : Box w k t cs) (hb : But g w w') (hk : k ≠ g) : Box w' k t cs := (hb.block k h.lt hk).trans h
theorem But.below {g B : Nat} {a w w' : World} (h : Below B a w) (hb : But g w w') (hB : B ≤ g) (hw : B ≤ w.heap.size) : Below B a w' :=
  h.trans ⟨hb.os, hb.tape, hb.output, hb.size, fun k hk => hb.block k (by omega) (by omega)⟩
theorem cell_heap {w w' : World} {b : Nat} (h : w'.heap[b]? = w.heap[b]?) (o : Nat) : w'.cell? ⟨b, o, none⟩ = w.cell? ⟨b, o, none⟩ := by
  unfold World.cell?
  simp only [h]
theorem Keeps.but {g : Nat} {w w' : World} {P P' : Nat → Prop} (hb : But g w w') (hg : ∀ b, P b → b ≠ g) (hP : ∀ b, P b → b < w.heap.size → P' b) : Keeps P P' w w' := ⟨fun b hp hl o => cell_heap (hb.block b hl (hg b hp)) o, hb.size, hP⟩
theorem Keeps.same {w : World} {P P' : Nat → Prop} (hP : ∀ b, P b → b < w.heap.size → P' b) : Keeps P P' w w := ⟨fun _ _ _ _ => rfl, Nat.le_refl _, hP⟩
end Go.Proofs.YtnkhghjcfhpeiaaGreatDoor

/-
  A slice of bytes that reads as a list; a literal row of texts.
-/
namespace Go.Proofs.YtnkhghjcfhpeiaaGreatDoor
open Go.RowKit

/-- the slice at address A holds the bytes ys, in a block below B -/
def Us (w : World) (B : Nat) (A : Option Addr) (ys : List UInt8) : Prop :=
  0 < ys.length → ∃ b o, A = some ⟨b, o, none⟩ ∧ b < B ∧ ∀ j, j < ys.length → w.cell? ⟨b, o + j, none⟩ = some (.int .u8 ((ys[j]?.getD 0).toNat : Int))
theorem Us.low {w w' : World} {B : Nat} {A : Option Addr} {ys : List UInt8} (h : Us w B A ys) (hb : Below B w w') : Us w' B A ys := by
  intro hx
  obtain ⟨b, o, rfl, hl, hc⟩ := h hx
  exact ⟨b, o, rfl, hl, fun j hj => (hb.cell hl).trans (hc j hj)⟩
theorem Us.up {w w' : World} {A : Option Addr} {ys : List UInt8} (h : Us w w.heap.size A ys) (hb : Below w.heap.size w w') : Us w' w'.heap.size A ys := by
  intro hx
  obtain ⟨b, o, rfl, hl, hc⟩ := h hx
  exact ⟨b, o, rfl, Nat.lt_of_lt_of_le hl hb.size, fun j hj => (hb.cell hl).trans (hc j hj)⟩
theorem Us.mono {w : World} {B B' : Nat} {A : Option Addr} {ys : List UInt8} (h : Us w B A ys) (hb : B ≤ B') : Us w B' A ys := by
  intro hx
  obtain ⟨b, o, rfl, hl, hc⟩ := h hx
  exact ⟨b, o, rfl, Nat.lt_of_lt_of_le hl hb, hc⟩

theorem lit_cell {W : World} {g : Nat} {xs : List ByteArray} (h : Box W g 9 (svs xs).toArray) {p : Nat} (hp : p < xs.length) : ∃ x, x ∈ xs ∧ W.cell? ⟨g, p, none⟩ = some (.string x) :=
  ⟨xs[p], List.getElem_mem hp, h.c p (by simp [svs, hp])⟩
end Go.Proofs.YtnkhghjcfhpeiaaGreatDoor

/-
  A struct of four cells is stored; the struct of a value.
-/
namespace Go.Proofs.YtnkhghjcfhpeiaaGreatDoor
open Go.RowKit
/-- a struct of four cells is stored -/
theorem box_set4 {w : World} {g : Nat} {ty : TypeId} {a b c d : Value} (h : Box w g ty #[a, b, c, d]) (u0 u1 u2 u3 : Value) :
    Box ((((w.setCell ⟨g, 0, none⟩ u0).setCell ⟨g, 1, none⟩ u1).setCell ⟨g, 2, none⟩ u2).setCell ⟨g, 3, none⟩ u3) g ty #[u0, u1, u2, u3] := by
  have := (((h.set 0 u0).set 1 u1).set 2 u2).set 3 u3
  simpa using this
theorem below_set4 {B : Nat} {a w : World} (h : Below B a w) {g : Nat} (hg : B ≤ g) (u0 u1 u2 u3 : Value) :
    Below B a ((((w.setCell ⟨g, 0, none⟩ u0).setCell ⟨g, 1, none⟩ u1).setCell ⟨g, 2, none⟩ u2).setCell ⟨g, 3, none⟩ u3) :=
  (((h.setCell (p := ⟨g, 0, none⟩) hg u0).setCell (p := ⟨g, 1, none⟩) hg u1).setCell (p := ⟨g, 2, none⟩) hg u2).setCell (p := ⟨g, 3, none⟩) hg u3
theorem but_set {g gr : Nat} {w W : World} (h : But g w W) (hr : w.heap.size ≤ gr) (i : Nat) (u : Value) : But g w (W.setCell ⟨gr, i, none⟩ u) :=
  ⟨h.os, h.tape, h.output, by simpa [World.setCell] using h.size, fun k hk hn => (Below.heap_setCell W ⟨gr, i, none⟩ u k (by simp only; omega)).trans (h.block k hk hn)⟩
theorem but_set4 {g gr : Nat} {w W : World} (h : But g w W) (hr : w.heap.size ≤ gr) (u0 u1 u2 u3 : Value) :
    But g w ((((W.setCell ⟨gr, 0, none⟩ u0).setCell ⟨gr, 1, none⟩ u1).setCell ⟨gr, 2, none⟩ u2).setCell ⟨gr, 3, none⟩ u3) :=
  but_set (but_set (but_set (but_set h hr 0 u0) hr 1 u1) hr 2 u2) hr 3 u3
theorem box_far4 {w : World} {g gr : Nat} {ty : TypeId} {cs : Array Value} (h : Box w g ty cs) (hne : g ≠ gr) (u0 u1 u2 u3 : Value) :
    Box ((((w.setCell ⟨gr, 0, none⟩ u0).setCell ⟨gr, 1, none⟩ u1).setCell ⟨gr, 2, none⟩ u2).setCell ⟨gr, 3, none⟩ u3) g ty cs :=
  (((h.far (p := ⟨gr, 0, none⟩) hne u0).far (p := ⟨gr, 1, none⟩) hne u1).far (p := ⟨gr, 2, none⟩) hne u2).far (p := ⟨gr, 3, none⟩) hne u3
/-- the struct of a value, with its slices -/
abbrev jx (v : Jv) (K S : Sli) : Value := .agg #[.int .i64 v.k, .string (tb v.t), .slice K.A K.n K.c, .slice S.A S.n S.c]
theorem JV.jx {w : World} {P : Nat → Prop} {v : Jv} {X : Value} (h : JV w P v X) : ∃ K S, X = jx v K S := by
  obtain ⟨k, t, ks, vs⟩ := v
  rw [JV] at h
  obtain ⟨K, S, cs, rfl, _⟩ := h
  exact ⟨K, S, rfl⟩
end Go.Proofs.YtnkhghjcfhpeiaaGreatDoor

/-
  append onto a slice of the call's own, of whatever slice that can be read, for elements of any size.
-/
namespace Go.Proofs.YtnkhghjcfhpeiaaGreatDoor
open Go.RowKit

/-- the slice holds news, or is nil -/
def Src (w : World) (sz : Nat) (A : Option Addr) (m c : Nat) (news : List Value) : Prop :=
  (A = none ∧ m = 0 ∧ c = 0 ∧ news = []) ∨ ∃ ad, A = some ad ∧ news.length = m * sz ∧ ∀ j u, news[j]? = some u → w.cell? (ad.add j) = some u

theorem ownsRow_slice {w : World} {base n sz : Nat} {t : TypeId} {v : Value} {ys : List Value} (h : w.ownsRow base t sz v n ys) : ∃ A c, v = .slice A n c := by
  rcases h.2 with ⟨h1, h2⟩ | ⟨g, c, _, h1, _⟩
  · exact ⟨none, 0, by rw [h1, h2]⟩
  · exact ⟨some ⟨g, 0, none⟩, c, h1⟩

section
variable {P : Program} (w : World)

theorem run_app (t ty : TypeId) (base : Nat) (e : TypeId) (i : TypeInfo) (z : Value) (sz bytes : Nat) (hsz : 0 < sz) (ht : P.underlying t = some (.slice e)) (hi : P.info? e = some i) (hz : i.zero = some z)
    (hsize : i.size = sz) (hby : i.bytes = bytes) (hzs : z.cells.size = sz) (v : Value) (n : Nat) (xs : List Value) (hown : w.ownsRow base e sz v n xs)
    (A : Option Addr) (m c : Nat) (news : List Value) (hsrc : Src w sz A m c news) (h1 : ∀ u ∈ news, u.oneCell' = true) (h63 : n + m ≤ maxLen) (hbytes : (n + m) * bytes ≤ 140737488355328) (hbase : base ≤ w.heap.size) (L : Nat) (hL : n + m = L) :
    ∃ A' c' w', (Builtin.append_ #[t, t] ty #[v, .slice A m c]).run P w = .ok (.slice A' L c') w' ∧ w'.ownsRow base e sz (.slice A' L c') L (xs ++ news) ∧ w.grownBy w' v.ownBlock ∧ ((Value.slice A' L c').ownBlock = v.ownBlock ∨ (Value.slice A' L c').ownBlock = some w.heap.size) := by
  subst hL
  rcases hsrc with ⟨rfl, rfl, rfl, rfl⟩ | ⟨ad, rfl, hl, hn⟩
  · obtain ⟨A', c', rfl⟩ := ownsRow_slice hown
    refine ⟨A', c', w, ?_, by simpa using hown, ⟨rfl, rfl, rfl, Nat.le_refl _, fun _ _ _ => rfl⟩, .inl rfl⟩
    exact run_append_owned_none w base t ty e i sz ht hi _ n xs hown
  · obtain ⟨v', w', hr, h2, h3, _, h5⟩ := run_append_own_at (P := P) w base t ty e i z sz bytes ht hi hz hsize hby hzs hsz v n xs hown ad m c news hl hn h1 h63 hbytes hbase
    obtain ⟨A', c', rfl⟩ := ownsRow_slice h2
    exact ⟨A', c', w', hr, h2, h3, h5⟩

theorem wp_app {o : Oper} {a : Act} {K : Act → World → Prop} {Q : Exit → Act → World → Prop} (s x : Operand) (t : TypeId)
    (ho : o.op = .call { callee := .builtin .append, args := #[s, x], argTypes := #[t, t] })
    (base : Nat) (e : TypeId) (i : TypeInfo) (z : Value) (sz bytes : Nat) (hsz : 0 < sz) (ht : P.underlying t = some (.slice e)) (hi : P.info? e = some i) (hz : i.zero = some z)
    (hsize : i.size = sz) (hby : i.bytes = bytes) (hzs : z.cells.size = sz) (v : Value) (n : Nat) (xs : List Value) (hs : a.eval s = v) (hown : w.ownsRow base e sz v n xs)
    (A : Option Addr) (m c : Nat) (news : List Value) (hx : a.eval x = .slice A m c) (hsrc : Src w sz A m c news) (h1 : ∀ u ∈ news, u.oneCell' = true) (h63 : n + m ≤ maxLen) (hbytes : (n + m) * bytes ≤ 140737488355328) (hbase : base ≤ w.heap.size) (L : Nat) (hL : n + m = L)
    (h : ∀ A' c' w', w'.ownsRow base e sz (.slice A' L c') L (xs ++ news) → w.grownBy w' v.ownBlock → ((Value.slice A' L c').ownBlock = v.ownBlock ∨ (Value.slice A' L c').ownBlock = some w.heap.size) → K (a.put o.dst (.slice A' L c')) w') : o.wp P a w K Q := by
  obtain ⟨A', c', w', hr, h2, h3, h4⟩ := run_app (P := P) w t o.type base e i z sz bytes hsz ht hi hz hsize hby hzs v n xs hown A m c news hsrc h1 h63 hbytes hbase L hL
  unfold Oper.wp execOp
  simp only [ho, resolve, invoke, builtin, Sem.run_bind, Sem.run_pure, Result.andThen_ok, List.map_toArray, List.map_cons, List.map_nil, hs, hx, hr]
  exact h A' c' w' h2 h3 h4

theorem wpList_app {ops : Array Oper} {rest : List Oper} {o : Oper} {a : Act} {Q : Exit → Act → World → Prop} (hgd : o.guard = none) (s x : Operand) (t : TypeId)
    (ho : o.op = .call { callee := .builtin .append, args := #[s, x], argTypes := #[t, t] })
    (base : Nat) (e : TypeId) (i : TypeInfo) (z : Value) (sz bytes : Nat) (hsz : 0 < sz) (ht : P.underlying t = some (.slice e)) (hi : P.info? e = some i) (hz : i.zero = some z)
    (hsize : i.size = sz) (hby : i.bytes = bytes) (hzs : z.cells.size = sz) (v : Value) (n : Nat) (xs : List Value) (hs : a.eval s = v) (hown : w.ownsRow base e sz v n xs)
    (A : Option Addr) (m c : Nat) (news : List Value) (hx : a.eval x = .slice A m c) (hsrc : Src w sz A m c news) (h1 : ∀ u ∈ news, u.oneCell' = true) (h63 : n + m ≤ maxLen) (hbytes : (n + m) * bytes ≤ 140737488355328) (hbase : base ≤ w.heap.size) (L : Nat) (hL : n + m = L)
    (h : ∀ A' c' w', w'.ownsRow base e sz (.slice A' L c') L (xs ++ news) → w.grownBy w' v.ownBlock → ((Value.slice A' L c').ownBlock = v.ownBlock ∨ (Value.slice A' L c').ownBlock = some w.heap.size) → wpList P ops Q rest (a.put o.dst (.slice A' L c')) w') : wpList P ops Q (o :: rest) a w :=
  wpList_plain hgd fun _ hK => wp_app w s x t ho base e i z sz bytes hsz ht hi hz hsize hby hzs v n xs hs hown A m c news hx hsrc h1 h63 hbytes hbase L hL fun A' c' w' h2 h3 h4 => hK _ _ (h A' c' w' h2 h3 h4)

theorem step_app {ops : Array Oper} {o : Oper} {a : Act} {K : Act → World → Prop} {Q : Exit → Act → World → Prop} {E : Prop} (hgd : o.guard = none) (s x : Operand) (t : TypeId)
    (ho : o.op = .call { callee := .builtin .append, args := #[s, x], argTypes := #[t, t] })
    (base : Nat) (e : TypeId) (i : TypeInfo) (z : Value) (sz bytes : Nat) (hsz : 0 < sz) (ht : P.underlying t = some (.slice e)) (hi : P.info? e = some i) (hz : i.zero = some z)
    (hsize : i.size = sz) (hby : i.bytes = bytes) (hzs : z.cells.size = sz) (v : Value) (n : Nat) (xs : List Value) (hs : a.eval s = v) (hown : w.ownsRow base e sz v n xs)
    (A : Option Addr) (m c : Nat) (news : List Value) (hx : a.eval x = .slice A m c) (hsrc : Src w sz A m c news) (h1 : ∀ u ∈ news, u.oneCell' = true) (h63 : n + m ≤ maxLen) (hbytes : (n + m) * bytes ≤ 140737488355328) (hbase : base ≤ w.heap.size) (L : Nat) (hL : n + m = L)
    (h : ∀ A' c' w', w'.ownsRow base e sz (.slice A' L c') L (xs ++ news) → w.grownBy w' v.ownBlock → ((Value.slice A' L c').ownBlock = v.ownBlock ∨ (Value.slice A' L c').ownBlock = some w.heap.size) → K (a.put o.dst (.slice A' L c')) w') :
    if Region.wanted o (yielded ops a.tmps) = true then Oper.wp P o a w K Q else E := by
  have hw : Region.wanted o (yielded ops a.tmps) = true := by simp [Region.wanted, hgd]
  rw [if_pos hw]
  exact wp_app w s x t ho base e i z sz bytes hsz ht hi hz hsize hby hzs v n xs hs hown A m c news hx hsrc h1 h63 hbytes hbase L hL h

end


/-- what was grown beyond a block, or nothing else: all that is older stands -/
theorem grown_none {w w' : World} (h : w.grownBy w' none) : Below w.heap.size w w' := (Below.refl _ _).grown h (Nat.le_refl _) (fun j hj => by cases hj)


theorem info9 : (Tryz.prog.info? 9).map (fun i => (i.zero, i.size, i.bytes)) = some (some (.string ⟨#[]⟩), 1, 16) := by kernel_rfl
theorem Rd.src {w : World} {A : Option Addr} {cs : List Value} {m c sz : Nat} (hsz : 0 < sz) (h : Rd w A cs) (hm : cs.length = m * sz) (hc : A = none → c = 0) : Src w sz A m c cs := by
  cases A with
  | none =>
    have hx : cs = [] := by
      cases cs with
      | nil => rfl
      | cons x r =>
        obtain ⟨b, o, hA, _⟩ := h (by simp)
        cases hA
    subst hx
    refine .inl ⟨rfl, ?_, hc rfl, rfl⟩
    rcases Nat.eq_zero_or_pos m with h0 | h0
    · exact h0
    · have := Nat.mul_pos h0 hsz
      simp at hm
      omega
  | some ad =>
    refine .inr ⟨ad, rfl, hm, fun j u hu => ?_⟩
    obtain ⟨b, o, hA, _, hcl⟩ := h (by have := (List.getElem?_eq_some_iff.1 hu).1; omega)
    obtain rfl := Option.some.inj hA
    rw [Addr.add_lit]
    exact hcl j u hu
theorem src_one (w : World) (t : TypeId) (cs : List Value) (m : Nat) (sz : Nat) (hl : cs.length = m * sz) : Src (w.alloc (.cells cs.toArray t)) sz (some ⟨w.heap.size, 0, none⟩) m m cs := by
  refine .inr ⟨_, rfl, hl, fun j u hu => ?_⟩
  rw [Addr.add_lit, Nat.zero_add]
  exact (Box.new w t cs.toArray).c j (by simpa using hu)

theorem infoV : (Tryz.prog.info? 25).map (fun i => (i.zero, i.size, i.bytes)) = some (some (.agg #[.int .i64 0, .string ⟨#[]⟩, .slice none 0 0, .slice none 0 0]), 4, 72) := by kernel_rfl
theorem info_parts {P : Program} {t : TypeId} {z : Value} {n b : Nat} (h : (P.info? t).map (fun i => (i.zero, i.size, i.bytes)) = some (some z, n, b)) : ∃ i, P.info? t = some i ∧ i.zero = some z ∧ i.size = n ∧ i.bytes = b := by
  cases hi : P.info? t with
  | none => rw [hi] at h; cases h
  | some i =>
    rw [hi] at h
    simp only [Option.map_some, Option.some.injEq, Prod.mk.injEq] at h
    exact ⟨i, rfl, h.1, h.2.1, h.2.2⟩
theorem infoT : (Tryz.prog.info? 9).map (fun i => (i.zero, i.size, i.bytes)) = some (some (.string ⟨#[]⟩), 1, 16) := by kernel_rfl
end Go.Proofs.YtnkhghjcfhpeiaaGreatDoor

/-
  Rows that grow while a value is made.
-/
namespace Go.Proofs.YtnkhghjcfhpeiaaGreatDoor
open Go.RowKit
def PB (gv : Nat) (K S : Sli) (b : Nat) : Prop := gv + 1 ≤ b ∧ some b ≠ (Value.slice K.A K.n K.c).ownBlock ∧ some b ≠ (Value.slice S.A S.n S.c).ownBlock
theorem row_but {W W' : World} {B sz g : Nat} {e t : TypeId} {s : Sli} {cs : List Value} {ps : Array Value} (h : Row W B e sz s cs) (hb : But g W W') (hg : Box W g t ps) (ht : t ≠ e) : Row W' B e sz s cs :=
  h.keep fun k _ hk => hb.block k (Array.getElem?_eq_some_iff.1 hk).1 (box_ne hg hk ht)
theorem rowf {W : World} {Bs sz : Nat} {e : TypeId} {O : Sli} {cs : List Value} (h : Row W Bs e sz O cs) {p : Addr} (hp : p.block < Bs) (v : Value) : Row (W.setCell p v) Bs e sz O cs := by
  refine ⟨h.1, ?_⟩
  rcases h.2 with hn | ⟨g, cap, cur, e1, hb, hgc, q⟩
  · exact .inl hn
  · exact .inr ⟨g, cap, cur, e1, hb, (Below.heap_setCell W p v g (by omega)).trans hgc, q⟩
theorem row_own {W : World} {Bs sz : Nat} {e : TypeId} {O : Sli} {cs : List Value} (h : Row W Bs e sz O cs) {b : Nat} (hb : some b = (Value.slice O.A O.n O.c).ownBlock) : Bs ≤ b ∧ b < W.heap.size := by
  rcases h.2 with ⟨e1, _⟩ | ⟨g, cap, cur, e1, hb2, hgc, _⟩
  · rw [e1] at hb
    cases hb
  · rw [e1] at hb
    have : b = g := Option.some.inj hb
    subst this
    exact ⟨hb2, (Array.getElem?_eq_some_iff.1 hgc).1⟩
section
variable {w W W' : World} {gm : Nat}
theorem grown_keep {P P' : Nat → Prop} {ob : Option Nat} (h : W.grownBy W' ob) (hP : ∀ b, P b → some b ≠ ob) (hP' : ∀ b, P b → b < W.heap.size → P' b) : Keeps P P' W W' :=
  ⟨fun b hp hl o => cell_heap (h.block b hl (hP b hp)) o, h.size, hP'⟩
theorem grown_box {ob : Option Nat} (h : W.grownBy W' ob) {g : Nat} {t : TypeId} {ps : Array Value} (hb : Box W g t ps) (hne : some g ≠ ob) : Box W' g t ps := (h.block g hb.lt hne).trans hb
theorem keep_set {P : Nat → Prop} {g i : Nat} {u : Value} (hP : ∀ b, P b → b ≠ g) : Keeps P P W (W.setCell ⟨g, i, none⟩ u) :=
  ⟨fun b hp _ o => cell_heap (Below.heap_setCell W ⟨g, i, none⟩ u b (hP b hp)) o, by simp [World.setCell], fun _ hp _ => hp⟩
theorem but_grown {ob : Option Nat} (h : But gm w W) (hg : W.grownBy W' ob) (hne : ∀ b, b < w.heap.size → some b ≠ ob) : But gm w W' :=
  ⟨hg.os.trans h.os, hg.tape.trans h.tape, hg.output.trans h.output, Nat.le_trans h.size hg.size, fun k hk hn => (hg.block k (Nat.lt_of_lt_of_le hk h.size) (hne k hk)).trans (h.block k hk hn)⟩
end
theorem row_slp {W : World} {B sz : Nat} {e : TypeId} {S : Sli} {cs : List Value} (h : Row W B e sz S cs) (hl : cs.length = S.n * sz) (hn : S.n = 0 → cs = []) : SlP W (fun b => B ≤ b) S sz cs := by
  refine ⟨hl, ?_, ?_, ?_⟩
  · intro hx
    rcases h.2 with ⟨_, h2⟩ | ⟨g, cap, cur, h1, hb, hg, hnc, hm, hcs, hv⟩
    · rw [hn h2] at hx
      exact absurd hx (by simp)
    · simp only [Value.slice.injEq] at h1
      refine ⟨g, 0, h1.1, hb, (Array.getElem?_eq_some_iff.1 hg).1, fun j u hu => ?_⟩
      rw [Nat.zero_add, cell_of_row W g j cur e (0, 0) hg, ← Array.getElem?_toList]
      rw [← hv, List.getElem?_take] at hu
      split at hu
      · exact hu
      · cases hu
  · intro hA
    rcases h.2 with ⟨h1, _⟩ | ⟨g, cap, cur, h1, _⟩
    · simp only [Value.slice.injEq] at h1
      exact h1.2.2
    · simp only [Value.slice.injEq] at h1
      rw [h1.1] at hA
      cases hA
  · rcases h.2 with ⟨h1, h2⟩ | ⟨g, cap, cur, h1, _, _, hnc, hm, _⟩
    · rw [h2]
      simp only [Value.slice.injEq] at h1
      rw [h1.2.2]
      exact ⟨Nat.zero_le _, Nat.zero_le _⟩
    · simp only [Value.slice.injEq] at h1
      rw [h1.2.2]
      exact ⟨hnc, hm⟩
theorem jleaf (w : World) (P : Nat → Prop) (k : Int) (t : Bs) : JV w P (.mk k t [] []) (jx (.mk k t [] []) ⟨none, 0, 0⟩ ⟨none, 0, 0⟩) := by
  rw [JV]
  exact ⟨⟨none, 0, 0⟩, ⟨none, 0, 0⟩, [], rfl, ⟨rfl, fun h => absurd h (by simp [svs]), fun _ => rfl, Nat.le_refl _, Nat.zero_le _⟩, ⟨rfl, fun h => absurd h (by simp), fun _ => rfl, Nat.le_refl _, Nat.zero_le _⟩, by rw [JL]⟩
end Go.Proofs.YtnkhghjcfhpeiaaGreatDoor
