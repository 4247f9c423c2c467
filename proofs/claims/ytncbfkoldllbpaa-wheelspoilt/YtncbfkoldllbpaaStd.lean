/-
  What the walks of the laws ask of wheel's own calls.
-/
import Derived.Test.YtncbfkoldllbpaaRefG
namespace Go.Proofs.Ytncbfkoldllbpaa
open Go.RowKit

/-- a wheel is handed back, and an error -/
def WhR (q : Wl × Int) (w : World) (e : Ending) (w' : World) : Prop :=
  ∃ S, e = .returned (.tuple #[wv q.1.now S, .int .i64 q.2]) ∧ At w' q.1 S ∧ Below w.heap.size w w'
/-- a wheel, numbers and an error are handed back -/
def TkR (q : Wl × List Int × Int) (w : World) (e : Ending) (w' : World) : Prop :=
  ∃ S F, e = .returned (.tuple #[wv q.1.now S, .slice F.A F.n F.c, .int .i64 q.2.2]) ∧ At w' q.1 S ∧ Ints w' F q.2.1 ∧ Below w.heap.size w w'
theorem WhEnds.r {q : Wl × Int} {w w' : World} {e : Ending} (h : WhEnds q w e w') : WhR q w e w' := by
  obtain ⟨S, h1, h2, h3⟩ := h
  exact ⟨S, h1, h2.at, h3⟩
theorem TkEnds.r {q : Wl × List Int × Int} {w w' : World} {e : Ending} (h : TkEnds q w e w') : TkR q w e w' := by
  obtain ⟨S, F, h1, h2, h3, h4⟩ := h
  exact ⟨S, F, h1, h2.at, h3, h4⟩

/-- an int -/
def I64 (x : Int) : Prop := -9223372036854775808 ≤ x ∧ x ≤ 9223372036854775807
/-- all that a wheel holds are ints -/
structure Wf (W : Wl) : Prop where
  now : I64 W.now
  tm : ∀ i, i < 8 → ∀ t ∈ W.sl i, I64 t.1 ∧ I64 t.2

/-- what is asked of wheel's own calls -/
structure P4 : Prop where
  right : ∀ (W : Wl) (S : Nat → Sli) (w : World), At w W S → Wf W → manyN W ≤ 1000 → Calls Try.prog 14 #[wv W.now S] w (BoolEnds (okB W) w)
  set : ∀ (W : Wl) (S : Nat → Sli) (id at_ : Int) (w : World), At w W S → Wf W → manyN W ≤ 1000 → I64 id → I64 at_ → Calls Try.prog 13 #[wv W.now S, .int .i64 id, .int .i64 at_] w (WhR (setN W id at_) w)
  cancel : ∀ (W : Wl) (S : Nat → Sli) (id : Int) (w : World), At w W S → Wf W → manyN W ≤ 1000 → I64 id → Calls Try.prog 12 #[wv W.now S, .int .i64 id] w (WhR (cancelN W id) w)
  tick : ∀ (W : Wl) (S : Nat → Sli) (w : World), At w W S → Wf W → manyN W ≤ 1000 → Calls Try.prog 11 #[wv W.now S] w (TkR (tickN W) w)

theorem tick_len (W : Wl) : (tickN W).2.1.length ≤ manyN W := by
  unfold tickN
  split
  · exact Nat.zero_le _
  · split
    · exact Nat.zero_le _
    · unfold Wl.due
      rw [List.length_map]
      exact Nat.le_trans (List.length_filter_le _ _) (len_le W (by omega))

end Go.Proofs.Ytncbfkoldllbpaa
