/-
  The walks of the methods of slots that read: id, slot, has, sized, gensInRange.
-/
import Derived.Test.YtkglgbbekmljcaaWords
import Derived.BigQuiet
import Derived.WalkSmall
namespace Go.Proofs.Ytkglgbbekmljcaa
open Go.RowKit

theorem Is.at {w : World} {A : Option Addr} {xs : List Int} (h : Is w A xs) {k : Nat} (hk : k < xs.length) : ∃ b o, A = some ⟨b, o, none⟩ ∧ b < w.heap.size ∧ w.cell? ⟨b, o + k, none⟩ = some (.int .i64 (gd xs k)) := by
  obtain ⟨b, o, e, hb, hc⟩ := h (by omega)
  exact ⟨b, o, e, hb, hc k hk⟩
theorem Bl.at {w : World} {A : Option Addr} {xs : List Bool} (h : Bl w A xs) {k : Nat} (hk : k < xs.length) : ∃ b o, A = some ⟨b, o, none⟩ ∧ b < w.heap.size ∧ w.cell? ⟨b, o + k, none⟩ = some (.bool (bd xs k)) := by
  obtain ⟨b, o, e, hb, hc⟩ := h (by omega)
  exact ⟨b, o, e, hb, hc k hk⟩

section
variable {Ag Ab Af : Option Addr} {N cg M cb F cf : Nat} {T : Tb} {w : World}

set_option maxHeartbeats 1000000 in
theorem id_any (h : At w T Ag N cg Ab M cb Af F cf) (k : Nat) (hk : k < N) (hN : N ≤ 64) (h0 : 0 ≤ gd T.gens k) (h1 : gd T.gens k ≤ 9007199254740992) :
    Calls Try.prog 33 #[tv Ag N cg Ab M cb Af F cf, .int .i64 (k : Int)] w fun e w' => e = .returned (.int .i64 (gd T.gens k * N + k)) ∧ Below w.heap.size w w' := by
  obtain ⟨b, o, rfl, hb, hc⟩ := Is.at h.g (by rw [h.lg]; exact hk)
  have HH := Lib.hid h
  clear h
  generalize gd T.gens k = x at *
  have hp : 0 ≤ x * (N : Int) := Int.mul_nonneg h0 (by omega)
  have hq : x * (N : Int) ≤ 9007199254740992 * 64 := Int.mul_le_mul h1 (by omega) (by omega) (by omega)
  unfold tv
  go_enter Try.func33, Try.ntmps33
  go_wp2_with fail
  go_quiet (fail)
  go_wp2
  go_ret
  exact ⟨rfl, below_drewN (ba1 _ _) _⟩

set_option maxHeartbeats 1000000 in
theorem slot_any (h : At w T Ag N cg Ab M cb Af F cf) (id : Int) (hN : 1 ≤ N) (h0 : 0 ≤ id) :
    Calls Try.prog 25 #[tv Ag N cg Ab M cb Af F cf, .int .i64 id] w fun e w' => e = .returned (.int .i64 (id % N)) ∧ Below w.heap.size w w' := by
  have hN' := h.hN
  have HH := Lib.hid h
  clear h
  unfold tv
  go_enter Try.func25, Try.ntmps25
  go_wp2
  go_ret
  exact ⟨rfl, (Below.refl _ _).alloc (Nat.le_refl _) _⟩

set_option maxHeartbeats 1000000 in
theorem sized_any (h : At w T Ag N cg Ab M cb Af F cf) :
    Calls Try.prog 27 #[tv Ag N cg Ab M cb Af F cf] w fun e w' => e = .returned (.bool (sizedT T)) ∧ Below w.heap.size w w' := by
  have he : sizedT T = (decide (1 ≤ N) && decide (N ≤ 64) && decide (M = N)) := by simp only [sizedT, h.lg, h.lb]
  rw [he]
  have hN' := h.hN
  have hM' := h.hM
  have HH := Lib.hid h
  clear h he
  unfold tv
  go_enter Try.func27, Try.ntmps27
  go_wp2
  all_goals
    go_ret
    exact ⟨ret_bool (by rw [Bool.eq_iff_iff]; simp; omega), (Below.refl _ _).alloc (Nat.le_refl _) _⟩

theorem all_inG {gens : List Int} : gens.all inG = true ↔ ∀ i, i < gens.length → inG (gd gens i) = true := by
  rw [List.all_eq_true]
  constructor
  · intro h i hi
    rw [gd_eq hi]
    exact h _ (List.getElem_mem hi)
  · intro h x hx
    obtain ⟨i, hi, rfl⟩ := List.mem_iff_getElem.1 hx
    have := h i hi
    rwa [gd_eq hi] at this

set_option maxHeartbeats 1000000 in
theorem gens_any (h : At w T Ag N cg Ab M cb Af F cf) :
    Calls Try.prog 28 #[tv Ag N cg Ab M cb Af F cf] w fun e w' => e = .returned (.bool (T.gens.all inG)) ∧ Below w.heap.size w w' := by
  have hN' := h.hN
  have HH := Lib.hid h
  clear h
  unfold tv
  go_enter Try.func28, Try.ntmps28
  go_wp2
  go_loopw [8] (fun i wr => ∃ k : Nat, k ≤ N ∧ i = .int .i64 k ∧ (∀ j, j < k → inG (gd T.gens j) = true) ∧ wr = w.alloc (.cells #[.slice Ag N cg, .slice Ab M cb, .slice Af F cf] 47))
    (fun i _ => N - (intOf i).toNat)
  case atStart => exact ⟨0, Nat.zero_le _, rfl, fun j hj => absurd hj (by omega), rfl⟩
  case round =>
    obtain ⟨k, hk, rfl, hall, rfl⟩ := hrel
    have HA := Lib.hid hall
    clear hall
    by_cases hlt : k < N
    · obtain ⟨b, o, rfl, hb, hc⟩ := Is.at (HH.out.up (ba1 w (.cells #[.slice Ag N cg, .slice Ab M cb, .slice Af F cf] 47))).g (by rw [HH.out.lg]; exact hlt)
      obtain ⟨x, hx⟩ : ∃ x, gd T.gens k = x := ⟨_, rfl⟩
      rw [hx] at hc
      have HX := Lib.hid hx
      clear hx
      by_cases h0 : x < 0
      · go_wp2
        go_ret
        refine ⟨ret_bool ?_, ba1 _ _⟩
        rw [eq_comm, ← Bool.not_eq_true, all_inG]
        intro hh
        have := hh k (by rw [HH.out.lg]; exact hlt)
        rw [HX.out] at this
        simp [inG] at this
        omega
      · by_cases h1 : 9007199254740992 < x
        · go_wp2
          go_ret
          refine ⟨ret_bool ?_, ba1 _ _⟩
          rw [eq_comm, ← Bool.not_eq_true, all_inG]
          intro hh
          have := hh k (by rw [HH.out.lg]; exact hlt)
          rw [HX.out] at this
          simp [inG] at this
          omega
        · go_wp2
          go_roundw
          case rel =>
            refine ⟨k + 1, by omega, by go_num, fun j hj => ?_, trivial⟩
            by_cases hjk : j < k
            · exact HA.out j hjk
            · have : j = k := by omega
              subst this
              rw [HX.out]
              simp [inG]
              omega
          case measure => simp [intOf]; omega
    · have : k = N := by omega
      subst this
      go_wp2
      go_ret
      refine ⟨ret_bool ?_, ba1 _ _⟩
      rw [eq_comm, all_inG, HH.out.lg]
      exact HA.out

end
end Go.Proofs.Ytkglgbbekmljcaa
