/-
  The walks of the document's own Ints and Same, of two that are the same.
-/
import Derived.Test.YtkglgbbekmljcaaSlots
namespace Go.Proofs.Ytkglgbbekmljcaa
open Go.RowKit

set_option maxHeartbeats 1000000 in
theorem ints_any (A A' : Option Addr) (n c c' : Nat) (xs : List Int) (w : World) (HX : Hid (xs.length = n)) (hn : n ≤ 1000) (h : Is w A xs) (h' : Is w A' xs) :
    Calls Try.prog 21 #[.slice A n c, .slice A' n c'] w fun e w' => e = .returned (.bool true) ∧ Below w.heap.size w w' := by
  have H1 := Lib.hid h
  have H2 := Lib.hid h'
  clear h h'
  go_enter Try.func21, Try.ntmps21
  go_wp2_with fail
  go_loopw [5] (fun i wr => ∃ k : Nat, k ≤ n ∧ i = .int .i64 (k : Int) ∧ Hid (Below w.heap.size w wr)) (fun i _ => n - (intOf i).toNat)
  case atStart => exact ⟨0, Nat.zero_le _, rfl, Lib.hid (Below.refl _ _)⟩
  case round =>
    obtain ⟨k, hk, rfl, HB⟩ := hrel
    by_cases hlt : k < n
    · obtain ⟨b, o, rfl, hb, hc⟩ := Is.at (H1.out.up HB.out) (k := k) (by rw [HX.out]; exact hlt)
      obtain ⟨b', o', rfl, hb', hc'⟩ := Is.at (H2.out.up HB.out) (k := k) (by rw [HX.out]; exact hlt)
      generalize gd xs k = x at *
      go_wp2_with fail
      go_quiet (fail)
      go_wp2
      go_roundw
      case rel => exact ⟨k + 1, by omega, by go_num, Lib.hid (below_drewN HB.out _)⟩
      case measure => simp [intOf]; omega
    · have : k = n := by omega
      subst this
      go_wp2
      go_ret
      exact ⟨rfl, HB.out⟩

set_option maxRecDepth 100000 in
set_option maxHeartbeats 2000000 in
theorem same_any {Ag Ab Af Ag' Ab' Af' : Option Addr} {N cg M cb F cf cg' cb' cf' : Nat} {T : Tb} {w : World} (h : At w T Ag N cg Ab M cb Af F cf) (h' : At w T Ag' N cg' Ab' M cb' Af' F cf') :
    Calls Try.prog 9 #[tv Ag N cg Ab M cb Af F cf, tv Ag' N cg' Ab' M cb' Af' F cf'] w fun e w' => e = .returned (.bool true) ∧ Below w.heap.size w w' := by
  have hM := h.hM
  have hw0 := ba2 w (.cells #[.slice Ag N cg, .slice Ab M cb, .slice Af F cf] 25) (.cells #[.slice Ag' N cg', .slice Ab' M cb', .slice Af' F cf'] 25)
  have b0 := (Box.new w 25 #[.slice Ag N cg, .slice Ab M cb, .slice Af F cf]).alloc (.cells #[.slice Ag' N cg', .slice Ab' M cb', .slice Af' F cf'] 25)
  have b1 := Box.mk' (w.alloc (.cells #[.slice Ag N cg, .slice Ab M cb, .slice Af F cf] 25)) 25 #[.slice Ag' N cg', .slice Ab' M cb', .slice Af' F cf'] (w.heap.size + 1) (by simp)
  have H1 := Lib.hid h
  have H2 := Lib.hid h'
  have HW0 := Lib.hid hw0
  have HB0 := Lib.hid b0
  have HB1 := Lib.hid b1
  clear h h' hw0 b0 b1
  unfold tv
  go_enter Try.func9, Try.ntmps9
  go_wp2_with fail
  generalize (w.alloc (.cells #[.slice Ag N cg, .slice Ab M cb, .slice Af F cf] 25)).alloc (.cells #[.slice Ag' N cg', .slice Ab' M cb', .slice Af' F cf'] 25) = W0 at *
  go_loopw [5] (fun i wr => ∃ k : Nat, k ≤ M ∧ i = .int .i64 (k : Int) ∧ Hid (Below W0.heap.size W0 wr)) (fun i _ => M - (intOf i).toNat)
  case atStart => exact ⟨0, Nat.zero_le _, rfl, Lib.hid (Below.refl _ _)⟩
  case round =>
    obtain ⟨k, hk, rfl, HB⟩ := hrel
    have hww := bon HW0.out HB.out
    obtain ⟨⟨c0, c1, c2⟩, _⟩ := (HB0.out.up HB.out).three
    obtain ⟨⟨d0, d1, d2⟩, _⟩ := (HB1.out.up HB.out).three
    by_cases hlt : k < M
    · obtain ⟨b, o, rfl, hb, hc⟩ := Bl.at (H1.out.up hww).b (k := k) (by rw [H1.out.lb]; exact hlt)
      obtain ⟨b', o', rfl, hb', hc'⟩ := Bl.at (H2.out.up hww).b (k := k) (by rw [H2.out.lb]; exact hlt)
      generalize bd T.busy k = x at *
      have HWW := Lib.hid hww
      clear hww
      go_wp2_with fail
      go_quiet (fail)
      go_wp2
      go_roundw
      case rel => exact ⟨k + 1, by omega, by go_num, Lib.hid (below_drewN HB.out _)⟩
      case measure => simp [intOf]; omega
    · have : k = M := by omega
      subst this
      have HWW := Lib.hid hww
      clear hww
      go_wp2_with fail
      refine (ints_any Ag Ag' N cg cg' T.gens _ (Lib.hid H1.out.lg) H1.out.hN (H1.out.up HWW.out).g (H2.out.up HWW.out).g).mono ?_
      rintro e w5 ⟨rfl, hb5⟩
      have HW5 := Lib.hid (bon HWW.out hb5)
      have x0 := (HB0.out.up HB.out).up hb5
      have x1 := (HB1.out.up HB.out).up hb5
      clear c0 c1 c2 d0 d1 d2 hb5
      obtain ⟨⟨c0, c1, c2⟩, _⟩ := x0.three
      obtain ⟨⟨d0, d1, d2⟩, _⟩ := x1.three
      go_wp2_with fail
      refine (ints_any Af Af' F cf cf' T.free _ (Lib.hid H1.out.lf) H1.out.hF (H1.out.up HW5.out).f (H2.out.up HW5.out).f).mono ?_
      rintro e w6 ⟨rfl, hb6⟩
      go_wp2
      go_ret
      exact ⟨rfl, bon HW5.out hb6⟩

end Go.Proofs.Ytkglgbbekmljcaa
