/-
  The walks of the document's own Strings and Same, where the texts are the same.
-/
import Derived.Test.YteefjcllbnmegaaGreatDoorRefB
namespace Go.Proofs.YteefjcllbnmegaaGreatDoor
open Go.RowKit

set_option maxRecDepth 100000 in
set_option maxHeartbeats 2000000 in
theorem same_same (a b : Sli) (xs : List Fd) (w : World) (ha : Fs w a xs) (hb : Fs w b xs) : Calls Tryz.prog 34 #[a.v, b.v] w (BoolEnds true w) := by
  obtain ⟨A, n, c⟩ := a
  obtain ⟨A', n', c'⟩ := b
  obtain rfl : n = n' := ha.len.symm.trans hb.len
  have hn := Nat.le_trans ha.le.1 ha.le.2
  unfold maxLen at hn
  have HA := Lib.hid ha
  have HB := Lib.hid hb
  clear ha hb
  simp only [Sli.v]
  simp only at hn
  go_enter Tryz.func34, Tryz.ntmps34
  go_wp2_with fail
  go_loopw [5] (fun i wr => ∃ k : Nat, k ≤ n ∧ i = .int .i64 (k : Int) ∧ Below w.heap.size w wr) (fun i _ => n - (intOf i).toNat)
  case atStart => exact ⟨0, Nat.zero_le _, rfl, Below.refl _ _⟩
  case round =>
    obtain ⟨k, hk, rfl, hbw⟩ := hrel
    by_cases hlt : k < n
    · obtain ⟨b1, o1, x, y, hA, hl1, hx1, c1, d1⟩ := (HA.out.up hbw).cell (k := k) hlt
      obtain ⟨b2, o2, x', y', hB, hl2, hx2, c2, d2⟩ := (HB.out.up hbw).cell (k := k) hlt
      have hxy : (x, y) = (x', y') := by rw [hx1] at hx2; exact Option.some.inj hx2
      obtain ⟨rfl, rfl⟩ := Prod.mk.inj hxy
      simp only at hA hB
      subst hA hB
      clear hx1 hx2 hxy
      have hki : (k : Int) < (n : Int) := by omega
      have hk0 : (0 : Int) ≤ (k : Int) := by omega
      go_wp2_with fail
      go_quiet (fail)
      go_wp2
      go_roundw
      case rel => exact ⟨k + 1, by omega, by go_num, below_drewN hbw _⟩
      case measure => simp [intOf]; omega
    · obtain rfl : k = n := by omega
      go_wp2
      go_ret
      exact ⟨rfl, hbw⟩

end Go.Proofs.YteefjcllbnmegaaGreatDoor
