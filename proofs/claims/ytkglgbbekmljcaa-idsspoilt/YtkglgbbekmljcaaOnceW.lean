/-
  What memory holds between two rounds of the law IdsOnce, and what each step makes of it.
-/
import Derived.Test.YtkglgbbekmljcaaApp
import Derived.Test.YtkglgbbekmljcaaOnceM
namespace Go.Proofs.Ytkglgbbekmljcaa
open Go.RowKit

/-- two slices lie in two blocks -/
def Off (A A' : Option Addr) : Prop := ∀ p q, A = some p → A' = some q → p.block ≠ q.block
theorem Off.symm {A A' : Option Addr} (h : Off A A') : Off A' A := fun p q hp hq e => h q p hq hp e.symm
theorem Off.nil (A : Option Addr) : Off A none := fun _ _ _ h => by cases h

structure OnceW (B g : Nat) (w : World) (T : Tb) (all inn : List Int) (Ag : Option Addr) (N cg : Nat) (Ab : Option Addr) (M cb : Nat) (Af : Option Addr) (F cf : Nat) (Aa : Option Addr) (La ca : Nat) (Ai : Option Addr) (Li ci : Nat) (wr : World) : Prop where
  b : Box wr g 25 #[.slice Ag N cg, .slice Ab M cb, .slice Af F cf]
  r : RowT wr B T Ag N cg Ab M cb Af F cf
  a : wr.ownsRow B 3 1 (.slice Aa La ca) La (all.map (Value.int .i64))
  i : wr.ownsRow B 3 1 (.slice Ai Li ci) Li (inn.map (Value.int .i64))
  dai : Off Aa Ai
  dga : Off Ag Aa
  dfa : Off Af Aa
  dgi : Off Ag Ai
  dfi : Off Af Ai
  l : Below B w wr
  hg : B ≤ g

section
variable {B g : Nat} {w wr w1 : World} {T T' : Tb} {all inn : List Int} {Ag : Option Addr} {N cg : Nat} {Ab : Option Addr} {M cb : Nat} {Af : Option Addr} {F cf : Nat} {Aa : Option Addr} {La ca : Nat} {Ai : Option Addr} {Li ci : Nat}
variable {Ag' : Option Addr} {N' cg' : Nat} {Ab' : Option Addr} {M' cb' : Nat} {Af' : Option Addr} {F' cf' : Nat}

theorem OnceW.swap (h : OnceW B g w T all inn Ag N cg Ab M cb Af F cf Aa La ca Ai Li ci wr) : OnceW B g w T inn all Ag N cg Ab M cb Af F cf Ai Li ci Aa La ca wr :=
  ⟨h.b, h.r, h.i, h.a, h.dai.symm, h.dgi, h.dfi, h.dga, h.dfa, h.l, h.hg⟩
theorem OnceW.size (h : OnceW B g w T all inn Ag N cg Ab M cb Af F cf Aa La ca Ai Li ci wr) : B ≤ wr.heap.size := by
  have := h.b.lt
  have := h.hg
  omega
theorem OnceW.la (h : OnceW B g w T all inn Ag N cg Ab M cb Af F cf Aa La ca Ai Li ci wr) : all.length = La := by simpa using h.a.1
theorem OnceW.li (h : OnceW B g w T all inn Ag N cg Ab M cb Af F cf Aa La ca Ai Li ci wr) : inn.length = Li := by simpa using h.i.1

theorem OnceW.up (h : OnceW B g w T all inn Ag N cg Ab M cb Af F cf Aa La ca Ai Li ci wr) (hb : Below wr.heap.size wr w1) : OnceW B g w T all inn Ag N cg Ab M cb Af F cf Aa La ca Ai Li ci w1 :=
  ⟨h.b.up hb, h.r.up hb, own_up h.a hb, own_up h.i hb, h.dai, h.dga, h.dfa, h.dgi, h.dfi, h.l.trans (hb.mono h.size), h.hg⟩

/-- a new table, that a call has handed back, goes into the table's variable -/
theorem OnceW.turn (h : OnceW B g w T all inn Ag N cg Ab M cb Af F cf Aa La ca Ai Li ci wr) (hr : RowT w1 wr.heap.size T' Ag' N' cg' Ab' M' cb' Af' F' cf') (hb : Below wr.heap.size wr w1) :
    OnceW B g w T' all inn Ag' N' cg' Ab' M' cb' Af' F' cf' Aa La ca Ai Li ci (((w1.setCell ⟨g, 0, none⟩ (.slice Ag' N' cg')).setCell ⟨g, 1, none⟩ (.slice Ab' M' cb')).setCell ⟨g, 2, none⟩ (.slice Af' F' cf')) := by
  have b1 := h.b.up hb
  have a1 := own_up h.a hb
  have i1 := own_up h.i hb
  have fa := (Row.of_own h.a).blk
  have fi := (Row.of_own h.i).blk
  have far3 : ∀ {A : Option Addr} {n c : Nat} {vs : List Value}, w1.ownsRow B 3 1 (.slice A n c) n vs → (((w1.setCell ⟨g, 0, none⟩ (.slice Ag' N' cg')).setCell ⟨g, 1, none⟩ (.slice Ab' M' cb')).setCell ⟨g, 2, none⟩ (.slice Af' F' cf')).ownsRow B 3 1 (.slice A n c) n vs := by
    intro A n c vs ho
    have hne := (Row.of_own ho).ne b1 (by decide)
    exact own_far (own_far (own_far ho (p := ⟨g, 0, none⟩) hne _) (p := ⟨g, 1, none⟩) hne _) (p := ⟨g, 2, none⟩) hne _
  refine ⟨b1.set3 _ _ _, (hr.far3 b1 (by decide) (by decide) _ _ _).mono h.size, far3 a1, far3 i1, h.dai, ?_, ?_, ?_, ?_, below_set3 (h.l.trans (hb.mono h.size)) h.hg _ _ _, h.hg⟩
  · intro p q hp hq
    have := (hr.g.blk p hp).1
    have := (fa q hq).2
    omega
  · intro p q hp hq
    have := (hr.f.blk p hp).1
    have := (fa q hq).2
    omega
  · intro p q hp hq
    have := (hr.g.blk p hp).1
    have := (fi q hq).2
    omega
  · intro p q hp hq
    have := (hr.f.blk p hp).1
    have := (fi q hq).2
    omega

/-- a number is appended to the first list -/
theorem OnceW.app {x : Int} {A' : Option Addr} {c' : Nat} {o : Obj} (h : OnceW B g w T all inn Ag N cg Ab M cb Af F cf Aa La ca Ai Li ci wr)
    (hown : w1.ownsRow B 3 1 (.slice A' (La + 1) c') (La + 1) (all.map (Value.int .i64) ++ [.int .i64 x])) (hgrow : (wr.alloc o).grownBy w1 (Value.slice Aa La ca).ownBlock) (hloc : (Value.slice A' (La + 1) c').ownBlock = (Value.slice Aa La ca).ownBlock ∨ (Value.slice A' (La + 1) c').ownBlock = some (wr.alloc o).heap.size) :
    OnceW B g w T (all ++ [x]) inn Ag N cg Ab M cb Af F cf A' (La + 1) c' Ai Li ci w1 := by
  have hblk : ∀ j, j < wr.heap.size → (∀ q, Aa = some q → q.block ≠ j) → w1.heap[j]? = wr.heap[j]? := by
    intro j hj hne
    refine (hgrow.block j (by simp; omega) ?_).trans (Below.heap_alloc wr o j hj)
    intro e
    cases Aa with
    | none => cases e
    | some q =>
      have e' : j = q.block := by injection e
      exact hne q rfl e'.symm
  have ra := Row.of_own h.a
  have ri := Row.of_own h.i
  have off : ∀ {X : Option Addr}, Off X Aa → (∀ q, X = some q → q.block < wr.heap.size) → Off X A' := by
    intro X hX hlt p q hp hq
    subst hq
    rcases hloc with hl | hl
    · cases hAa : Aa with
      | none => rw [hAa] at hl; cases hl
      | some s =>
        rw [hAa] at hl
        have e' : q.block = s.block := by injection hl
        rw [e']
        exact hX _ _ hp hAa
    · have e' : q.block = (wr.alloc o).heap.size := by injection hl
      have := hlt p hp
      simp at e'
      omega
  refine ⟨?_, ⟨?_, ?_, ?_, h.r.d⟩, by simpa using hown, ?_, (off h.dai.symm (fun q hq => (ri.blk q hq).2)).symm, off h.dga (fun q hq => (h.r.g.blk q hq).2), off h.dfa (fun q hq => (h.r.f.blk q hq).2), h.dgi, h.dfi, ?_, h.hg⟩
  · exact (hblk g h.b.lt (ra.ne h.b (by decide))).trans h.b
  · exact h.r.g.keep fun q hq => hblk _ (h.r.g.blk q hq).2 (fun q' hq' e => h.dga _ _ hq hq' e.symm)
  · exact h.r.b.keep fun q hq => hblk _ (h.r.b.blk q hq).2 (fun q' hq' => ra.ne2 h.r.b (by decide) _ _ hq' hq)
  · exact h.r.f.keep fun q hq => hblk _ (h.r.f.blk q hq).2 (fun q' hq' e => h.dfa _ _ hq hq' e.symm)
  · exact own_keep h.i fun q hq => hblk _ (ri.blk q hq).2 (fun q' hq' => h.dai _ _ hq' hq)
  · refine Below.grown (h.l.alloc h.size o) hgrow (by have := h.size; simp; omega) ?_
    intro j hj
    cases hAa : Aa with
    | none => rw [hAa] at hj; cases hj
    | some s =>
      rw [hAa] at hj
      have e' : s.block = j := by injection hj
      have := (ra.blk s hAa).1
      omega

/-- the second list is made anew -/
theorem OnceW.anew {ys : List Int} {A' : Option Addr} {L' c' : Nat} (h : OnceW B g w T all inn Ag N cg Ab M cb Af F cf Aa La ca Ai Li ci wr)
    (hown : w1.ownsRow wr.heap.size 3 1 (.slice A' L' c') L' (ys.map (Value.int .i64))) (hb : Below wr.heap.size wr w1) :
    OnceW B g w T all ys Ag N cg Ab M cb Af F cf Aa La ca A' L' c' w1 := by
  have off : ∀ {X : Option Addr}, (∀ q, X = some q → q.block < wr.heap.size) → Off X A' := by
    intro X hlt p q hp hq
    have := hlt p hp
    have := ((Row.of_own hown).blk q hq).1
    omega
  exact ⟨h.b.up hb, h.r.up hb, own_up h.a hb, own_mono hown h.size, off (fun q hq => ((Row.of_own h.a).blk q hq).2), h.dga, h.dfa, off (fun q hq => (h.r.g.blk q hq).2), off (fun q hq => (h.r.f.blk q hq).2), h.l.trans (hb.mono h.size), h.hg⟩

end

theorem add_none (g o i : Nat) : (⟨g, o, none⟩ : Addr).add i = ⟨g, o + i, none⟩ := by unfold Addr.add; split <;> simp_all

/-- the first j numbers of a list, as a slice -/
theorem src_take {W : World} {B gi Li ci j : Nat} {xs : List Int} (h : W.ownsRow B 3 1 (.slice (some ⟨gi, 0, none⟩) Li ci) Li (xs.map (Value.int .i64))) (hj : j ≤ Li) : Src W (some ⟨gi, 0, none⟩) j ci ((xs.take j).map (Value.int .i64)) := by
  have hl : xs.length = Li := by simpa using h.1
  refine .inr ⟨_, rfl, by simp; omega, fun i u hu => ?_⟩
  have hi : i < j := by
    have := (List.getElem?_eq_some_iff.1 hu).1
    simp at this
    omega
  rw [add_none, Nat.zero_add, h.cellAt i (by omega)]
  rw [List.map_take, List.getElem?_take, if_pos hi] at hu
  exact hu
/-- those from the place o on -/
theorem src_drop {W : World} {B gi Li ci o c : Nat} {xs : List Int} (h : W.ownsRow B 3 1 (.slice (some ⟨gi, 0, none⟩) Li ci) Li (xs.map (Value.int .i64))) : Src W (some ⟨gi, o, none⟩) (Li - o) c ((xs.drop o).map (Value.int .i64)) := by
  have hl : xs.length = Li := by simpa using h.1
  refine .inr ⟨_, rfl, by simp; omega, fun i u hu => ?_⟩
  have hi : i < Li - o := by
    have := (List.getElem?_eq_some_iff.1 hu).1
    simp at this
    omega
  rw [add_none, h.cellAt (o + i) (by omega)]
  rw [List.map_drop, List.getElem?_drop] at hu
  exact hu
/-- none is left -/
theorem src_none {W : World} {A : Addr} {Li o c : Nat} {xs : List Int} (hl : xs.length = Li) (ho : Li ≤ o) : Src W (some A) (Li - o) c ((xs.drop o).map (Value.int .i64)) := by
  refine .inr ⟨_, rfl, by simp; omega, fun i u hu => ?_⟩
  rw [List.drop_eq_nil_of_le (by omega)] at hu
  simp at hu

theorem Src.up {W w' : World} {A : Option Addr} {m c : Nat} {news : List Value} (h : Src W A m c news) (hb : Below W.heap.size W w') : Src w' A m c news := by
  rcases h with h | ⟨ad, h1, h2, h3⟩
  · exact .inl h
  · exact .inr ⟨ad, h1, h2, fun j u hu => (hb.cell (World.block_lt_of_cell? W _ (h3 j u hu))).trans (h3 j u hu)⟩

/-- the two appends put together: a list without its place j, in memory of its own -/
theorem anew_two {W w8 w9 : World} {H j Li c8 c9 : Nat} {A8 A9 : Option Addr} {xs : List Int} (hb8 : Below H W w8) (h8 : w8.ownsRow H 3 1 (.slice A8 j c8) j ([] ++ (xs.take j).map (Value.int .i64))) (hH : H = W.heap.size)
    (h9 : w9.ownsRow H 3 1 (.slice A9 (Li - 1) c9) (Li - 1) (([] ++ (xs.take j).map (Value.int .i64)) ++ (xs.drop (j + 1)).map (Value.int .i64))) (hg9 : w8.grownBy w9 (Value.slice A8 j c8).ownBlock) :
    w9.ownsRow W.heap.size 3 1 (.slice A9 (Li - 1) c9) (Li - 1) ((xs.take j ++ xs.drop (j + 1)).map (Value.int .i64)) ∧ Below W.heap.size W w9 := by
  subst hH
  refine ⟨by simpa using h9, hb8.grown hg9 hb8.size ?_⟩
  intro i hi
  cases hA : A8 with
  | none => rw [hA] at hi; cases hi
  | some a =>
    rw [hA] at hi
    have e' : a.block = i := by injection hi
    have := ((Row.of_own h8).blk a hA).1
    omega

end Go.Proofs.Ytkglgbbekmljcaa
