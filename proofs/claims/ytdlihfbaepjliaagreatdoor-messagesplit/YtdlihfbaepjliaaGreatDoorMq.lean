/-
  A row of messages that grows by many at once.
-/
import Derived.Test.YtdlihfbaepjliaaGreatDoorJMc
import Derived.Test.YtdlihfbaepjliaaGreatDoorJRefS
namespace Go.Proofs.YtdlihfbaepjliaaGreatDoor
open Go.RowKit
theorem mo_apps {W W' : World} {B : Nat} {P : Nat → Prop} {O : Sli} {ms : List MS7} (h : Mo W B P O ms) {A : Option Addr} {n c : Nat} {xs : List MS7}
    (h1 : W'.ownsRow B 49 7 (.slice A n c) n (mvs ms ++ mvs xs)) (h2 : W.grownBy W' (Value.slice O.A O.n O.c).ownBlock) (h3 : (Value.slice A n c).ownBlock = (Value.slice O.A O.n O.c).ownBlock ∨ (Value.slice A n c).ownBlock = some W.heap.size)
    (hF : ∀ x ∈ xs, Fs W x.2 (mkF x.1.h.fs)) (ha : ∀ x ∈ xs, ∀ k, P k → Away k x.2.A (mkF x.1.h.fs)) (hp : ∀ x ∈ xs, Apt O x.2 (mkF x.1.h.fs)) : Mo W' B P ⟨A, n, c⟩ (ms ++ xs) := by
  have hap : ∀ (y : MS7), Fs W y.2 (mkF y.1.h.fs) → Apt O y.2 (mkF y.1.h.fs) → Apt ⟨A, n, c⟩ y.2 (mkF y.1.h.fs) := by
    intro y hy hq hne ad o hA hO
    simp only at hO
    rw [own_of, own_of] at h3
    rw [hO] at h3
    rcases h3 with h3 | h3
    · cases hOA : O.A with
      | none => rw [hOA] at h3; cases h3
      | some z =>
        rw [hOA] at h3
        have e : o.block = z.block := Option.some.inj h3
        rw [e]
        exact hq hne ad z hA hOA
    · have e : o.block = W.heap.size := Option.some.inj h3
      have := hy.lt hne hA
      omega
  refine ⟨by rw [mvs_app]; exact h1, fun y hy => ?_, fun y hy => ?_, fun y hy => ?_⟩
  · rcases List.mem_append.1 hy with hy | hy
    · exact (h.fs y hy).grown h2 (h.ap y hy)
    · exact (hF y hy).grown h2 (hp y hy)
  · rcases List.mem_append.1 hy with hy | hy
    · exact h.aw y hy
    · exact ha y hy
  · rcases List.mem_append.1 hy with hy | hy
    · exact hap y (h.fs y hy) (h.ap y hy)
    · exact hap y (hF y hy) (hp y hy)
/-- a slice of messages that is read keeps, while another row grows -/
theorem Mo.apt {W : World} {B : Nat} {P : Nat → Prop} {O : Sli} {ms : List MS7} (h : Mo W B P O ms) {k : Nat} (hk : W.heap.size ≤ k) {A : Option Addr} {fs : List Fd} (ha : ∀ j, j < k → Away j A fs) (n c : Nat) : Apt O ⟨A, n, c⟩ fs := fun hne ad o hA hO => by
  rcases h.row.2 with ⟨h1, _⟩ | ⟨g, cap, cur, h1, _, hg, _⟩
  · simp only [Value.slice.injEq] at h1
    rw [h1.1] at hO
    cases hO
  · simp only [Value.slice.injEq] at h1
    rw [h1.1] at hO
    obtain rfl := Option.some.inj hO
    have := (Array.getElem?_eq_some_iff.1 hg).1
    exact ha g (by omega) hne ad hA
theorem Ms.src {w : World} {S : Sli} {ms : List MS7} (h : Ms w S ms) : Src w 7 S.A S.n S.c (mvs ms) :=
  h.rd.src (by decide) (by rw [mvs_len, h.len]) h.cap
end Go.Proofs.YtdlihfbaepjliaaGreatDoor
