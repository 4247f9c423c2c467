/-
  What the laws' walks ask of wheel's own calls holds of the program: Right, Set, Cancel and Tick are the lists' functions.
-/
import Derived.Test.YtncbfkoldllbpaaPh
import Derived.Test.YtncbfkoldllbpaaOnceW
namespace Go.Proofs.Ytncbfkoldllbpaa
open Go.RowKit

theorem Own8.fresh {w w' : World} {W W' : Wl} {S S' : Nat → Sli} (h : Own8 w' w.heap.size W' S') : Fresh W S w W' S' := fun i hi _ q hq => .inl ((h.row i hi).blk q hq).1
theorem IRow.blk {w : World} {B : Nat} {s : Sli} {xs : List Int} (h : IRow w B s xs) : ∀ q, s.A = some q → B ≤ q.block := by
  intro q hq
  rcases h.2 with ⟨h1, _⟩ | ⟨g, cap, cur, h1, hb, _⟩
  · simp only [Value.slice.injEq] at h1
    rw [h1.1] at hq
    cases hq
  · simp only [Value.slice.injEq] at h1
    rw [h1.1] at hq
    obtain rfl := Option.some.inj hq
    exact hb

theorem p4n : P4N where
  right W S w h _ hf := right_any W S w h hf
  set W S id at_ w h _ hf _ _ := (pset_any W S id at_ w h hf).mono fun _ _ ⟨S', h1, h2, h3⟩ => ⟨S', h1, h2.at, h2.fresh, h3⟩
  cancel W S id w h _ hf _ := (pcancel_any W S id w h hf).mono fun _ _ ⟨S', h1, h2, h3⟩ => ⟨S', h1, h2.at, h2.fresh, h3⟩
  tick W S w h _ hf := (ptick_any W S w h hf).mono fun _ _ ⟨S', F, h1, h2, h3, h4⟩ => ⟨S', F, h1, h2.at, h2.fresh, h3.ints, fun _ => h3.blk, h4⟩

end Go.Proofs.Ytncbfkoldllbpaa
