/-
  For the stage's theorem: the wheel's variable and the law's own times in memory, and what each step makes of them.
-/
import Derived.Test.YtncbfkoldllbpaaOnceM
import Derived.Test.YtncbfkoldllbpaaAwake
namespace Go.Proofs.Ytncbfkoldllbpaa
open Go.RowKit

/-- what is handed back lies in new blocks, or where the argument lay -/
def Fresh (W : Wl) (S : Nat → Sli) (w : World) (W' : Wl) (S' : Nat → Sli) : Prop :=
  ∀ i, i < 8 → 0 < (W'.sl i).length → ∀ q, (S' i).A = some q → w.heap.size ≤ q.block ∨ ∃ j, j < 8 ∧ 0 < (W.sl j).length ∧ ∃ p, (S j).A = some p ∧ p.block = q.block
def WhN (W : Wl) (S : Nat → Sli) (q : Wl × Int) (w : World) (e : Ending) (w' : World) : Prop :=
  ∃ S', e = .returned (.tuple #[wv q.1.now S', .int .i64 q.2]) ∧ At w' q.1 S' ∧ Fresh W S w q.1 S' ∧ Below w.heap.size w w'
def TkN (W : Wl) (S : Nat → Sli) (q : Wl × List Int × Int) (w : World) (e : Ending) (w' : World) : Prop :=
  ∃ S' F, e = .returned (.tuple #[wv q.1.now S', .slice F.A F.n F.c, .int .i64 q.2.2]) ∧ At w' q.1 S' ∧ Fresh W S w q.1 S' ∧ Ints w' F q.2.1 ∧ (0 < q.2.1.length → ∀ p, F.A = some p → w.heap.size ≤ p.block) ∧ Below w.heap.size w w'
theorem WhN.r {W : Wl} {S : Nat → Sli} {q : Wl × Int} {w w' : World} {e : Ending} (h : WhN W S q w e w') : WhR q w e w' := by
  obtain ⟨S', h1, h2, _, h3⟩ := h
  exact ⟨S', h1, h2, h3⟩
theorem TkN.r {W : Wl} {S : Nat → Sli} {q : Wl × List Int × Int} {w w' : World} {e : Ending} (h : TkN W S q w e w') : TkR q w e w' := by
  obtain ⟨S', F, h1, h2, _, h3, _, h4⟩ := h
  exact ⟨S', F, h1, h2, h3, h4⟩
/-- what is asked of wheel's own calls, with where the results lie -/
structure P4N : Prop where
  right : ∀ (W : Wl) (S : Nat → Sli) (w : World), At w W S → Wf W → manyN W ≤ 1000 → Calls Try.prog 14 #[wv W.now S] w (BoolEnds (okB W) w)
  set : ∀ (W : Wl) (S : Nat → Sli) (id at_ : Int) (w : World), At w W S → Wf W → manyN W ≤ 1000 → I64 id → I64 at_ → Calls Try.prog 13 #[wv W.now S, .int .i64 id, .int .i64 at_] w (WhN W S (setN W id at_) w)
  cancel : ∀ (W : Wl) (S : Nat → Sli) (id : Int) (w : World), At w W S → Wf W → manyN W ≤ 1000 → I64 id → Calls Try.prog 12 #[wv W.now S, .int .i64 id] w (WhN W S (cancelN W id) w)
  tick : ∀ (W : Wl) (S : Nat → Sli) (w : World), At w W S → Wf W → manyN W ≤ 1000 → Calls Try.prog 11 #[wv W.now S] w (TkN W S (tickN W) w)
theorem P4N.p4 (h : P4N) : P4 where
  right := h.right
  set W S id at_ w a b c d e := (h.set W S id at_ w a b c d e).mono fun _ _ q => q.r
  cancel W S id w a b c d := (h.cancel W S id w a b c d).mono fun _ _ q => q.r
  tick W S w a b c := (h.tick W S w a b c).mono fun _ _ q => q.r

/-- the law's own times, in memory -/
def dcs (d : Nat → Int) : Array Value := #[.int .i64 (d 0), .int .i64 (d 1), .int .i64 (d 2), .int .i64 (d 3), .int .i64 (d 4), .int .i64 (d 5), .int .i64 (d 6), .int .i64 (d 7), .int .i64 (d 8), .int .i64 (d 9), .int .i64 (d 10), .int .i64 (d 11), .int .i64 (d 12), .int .i64 (d 13), .int .i64 (d 14), .int .i64 (d 15)]
theorem dcs_at (d : Nat → Int) {k : Nat} (h : k < 16) : (dcs d)[k]? = some (.int .i64 (d k)) := by
  rcases (show k = 0 ∨ k = 1 ∨ k = 2 ∨ k = 3 ∨ k = 4 ∨ k = 5 ∨ k = 6 ∨ k = 7 ∨ k = 8 ∨ k = 9 ∨ k = 10 ∨ k = 11 ∨ k = 12 ∨ k = 13 ∨ k = 14 ∨ k = 15 by omega) with rfl | rfl | rfl | rfl | rfl | rfl | rfl | rfl | rfl | rfl | rfl | rfl | rfl | rfl | rfl | rfl <;> rfl
theorem dcs_set (d : Nat → Int) {k : Nat} (h : k < 16) (v : Int) : (dcs d).setIfInBounds k (.int .i64 v) = dcs (upd d k v) := by
  rcases (show k = 0 ∨ k = 1 ∨ k = 2 ∨ k = 3 ∨ k = 4 ∨ k = 5 ∨ k = 6 ∨ k = 7 ∨ k = 8 ∨ k = 9 ∨ k = 10 ∨ k = 11 ∨ k = 12 ∨ k = 13 ∨ k = 14 ∨ k = 15 by omega) with rfl | rfl | rfl | rfl | rfl | rfl | rfl | rfl | rfl | rfl | rfl | rfl | rfl | rfl | rfl | rfl <;> rfl

/-- the wheel's variable g, and the law's own times gd -/
structure OnW (B g gd : Nat) (W : Wl) (d : Nat → Int) (U : Nat → Sli) (w wr : World) : Prop where
  hg : Box wr g 25 (wcs W.now U)
  at_ : At wr W U
  ne : ∀ i, i < 8 → 0 < (W.sl i).length → ∀ q, (U i).A = some q → q.block ≠ gd
  hd : Box wr gd 36 (dcs d)
  hb : Below B w wr
  ne2 : g ≠ gd
  le : B ≤ g ∧ B ≤ gd
section
variable {B g gd : Nat} {W : Wl} {d : Nat → Int} {U : Nat → Sli} {w wr w1 : World}
theorem OnW.sz (h : OnW B g gd W d U w wr) : B ≤ wr.heap.size := Nat.le_trans h.le.1 (Nat.le_of_lt h.hg.lt)
theorem OnW.up (h : OnW B g gd W d U w wr) (hb : Below wr.heap.size wr w1) : OnW B g gd W d U w w1 := ⟨h.hg.up hb, h.at_.up hb, h.ne, h.hd.up hb, h.hb.trans (hb.mono h.sz), h.ne2, h.le⟩
theorem OnW.drewN (h : OnW B g gd W d U w wr) (j : Nat) : OnW B g gd W d U w (wr.drewN j) := h.up (below_drewN (Below.refl _ _) _)
/-- a time is set -/
theorem OnW.time (h : OnW B g gd W d U w wr) {k : Nat} (hk : k < 16) (v : Int) : OnW B g gd W (upd d k v) U w (wr.setCell ⟨gd, k, none⟩ (.int .i64 v)) where
  hg := h.hg.far (p := ⟨gd, k, none⟩) h.ne2 _
  at_ := ⟨h.at_.len, fun i hi => (h.at_.ts i hi).keep (by simp [World.setCell]) (fun hx q hq => Below.heap_setCell _ _ _ _ (h.ne i hi hx q hq)), h.at_.cap, h.at_.le⟩
  ne := h.ne
  hd := by rw [← dcs_set d hk]; exact h.hd.set k _
  hb := h.hb.setCell (p := ⟨gd, k, none⟩) h.le.2 _
  ne2 := h.ne2
  le := h.le
/-- the wheel is given another -/
theorem OnW.turn (h : OnW B g gd W d U w wr) (hb : Below wr.heap.size wr w1) {W' : Wl} {n1 : Int} (hn : W'.now = n1) {S : Nat → Sli} (ha : At w1 W' S) (hf : Fresh W U wr W' S) : OnW B g gd W' d S w (((((((((w1.setCell ⟨g, 0, none⟩ (.int .i64 n1)).setCell ⟨g, 1, none⟩ (.slice (S 0).A (S 0).n (S 0).c)).setCell ⟨g, 2, none⟩ (.slice (S 1).A (S 1).n (S 1).c)).setCell ⟨g, 3, none⟩ (.slice (S 2).A (S 2).n (S 2).c)).setCell ⟨g, 4, none⟩ (.slice (S 3).A (S 3).n (S 3).c)).setCell ⟨g, 5, none⟩ (.slice (S 4).A (S 4).n (S 4).c)).setCell ⟨g, 6, none⟩ (.slice (S 5).A (S 5).n (S 5).c)).setCell ⟨g, 7, none⟩ (.slice (S 6).A (S 6).n (S 6).c)).setCell ⟨g, 8, none⟩ (.slice (S 7).A (S 7).n (S 7).c)) := by
  subst hn
  have h1 := h.up hb
  refine ⟨h1.hg.set9 (.int .i64 W'.now) (.slice (S 0).A (S 0).n (S 0).c) (.slice (S 1).A (S 1).n (S 1).c) (.slice (S 2).A (S 2).n (S 2).c) (.slice (S 3).A (S 3).n (S 3).c) (.slice (S 4).A (S 4).n (S 4).c) (.slice (S 5).A (S 5).n (S 5).c) (.slice (S 6).A (S 6).n (S 6).c) (.slice (S 7).A (S 7).n (S 7).c), ha.far9 h1.hg (.int .i64 W'.now) (.slice (S 0).A (S 0).n (S 0).c) (.slice (S 1).A (S 1).n (S 1).c) (.slice (S 2).A (S 2).n (S 2).c) (.slice (S 3).A (S 3).n (S 3).c) (.slice (S 4).A (S 4).n (S 4).c) (.slice (S 5).A (S 5).n (S 5).c) (.slice (S 6).A (S 6).n (S 6).c) (.slice (S 7).A (S 7).n (S 7).c), ?_, h1.hd.far9 (Ne.symm h1.ne2) (.int .i64 W'.now) (.slice (S 0).A (S 0).n (S 0).c) (.slice (S 1).A (S 1).n (S 1).c) (.slice (S 2).A (S 2).n (S 2).c) (.slice (S 3).A (S 3).n (S 3).c) (.slice (S 4).A (S 4).n (S 4).c) (.slice (S 5).A (S 5).n (S 5).c) (.slice (S 6).A (S 6).n (S 6).c) (.slice (S 7).A (S 7).n (S 7).c), below_set9 h1.hb h1.le.1 (.int .i64 W'.now) (.slice (S 0).A (S 0).n (S 0).c) (.slice (S 1).A (S 1).n (S 1).c) (.slice (S 2).A (S 2).n (S 2).c) (.slice (S 3).A (S 3).n (S 3).c) (.slice (S 4).A (S 4).n (S 4).c) (.slice (S 5).A (S 5).n (S 5).c) (.slice (S 6).A (S 6).n (S 6).c) (.slice (S 7).A (S 7).n (S 7).c), h.ne2, h.le⟩
  intro i hi hx q hq he
  rcases hf i hi hx q hq with h2 | ⟨j, hj, hjx, p, hp, hpq⟩
  · have := h.hd.lt
    omega
  · exact h.ne j hj hjx p hp (hpq.trans he)
end

end Go.Proofs.Ytncbfkoldllbpaa
