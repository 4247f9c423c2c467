/-
  The walk of the law IdsAny.
-/
import Derived.Test.YtkglgbbekmljcaaTold
import Derived.Test.YtkglgbbekmljcaaRef5
namespace Go.Proofs.Ytkglgbbekmljcaa
open Go.RowKit

theorem sm_new (room : Int) : Sm (newT room) := by
  unfold newT
  split
  · next h =>
    refine ⟨by simp; omega, by simp; omega, by simp; omega, fun x hx => ?_⟩
    obtain ⟨i, hi, rfl⟩ := List.mem_map.1 hx
    have := List.mem_range.1 hi
    exact wf_small (by simp) (by simp; omega)
  · exact ⟨by simp, by simp, by simp, fun x hx => by cases hx⟩

set_option maxRecDepth 100000 in
set_option maxHeartbeats 2000000 in
theorem any_any {Ag Ab Af : Option Addr} {N cg M cb F cf : Nat} {T : Tb} {w : World} (id room : Int) (hN : N ≤ maxLen) (hM : M ≤ maxLen) (hF : F ≤ maxLen) (hid : id ≤ 9223372036854775807)
    (HA : Hid (N ≤ 100 → M ≤ 100 → F ≤ 100 → At w T Ag N cg Ab M cb Af F cf)) :
    Calls Try.prog 3 #[tv Ag N cg Ab M cb Af F cf, .int .i64 id, .int .i64 room] w fun e w' => e = .returned (.bool true) ∧ Below w.heap.size w w' := by
  unfold maxLen at hN hM hF
  unfold tv
  by_cases h1 : 100 < N
  · have h1' : (100 : Int) < (N : Int) := by omega
    go_enter Try.func3, Try.ntmps3
    go_wp2_with fail
    refine (awake_any _).mono ?_
    rintro e w1 ⟨rfl, hb1⟩
    go_wp2
    go_ret
    exact ⟨rfl, bon (ba1 _ _) hb1⟩
  have h1' : ¬ (100 : Int) < (N : Int) := by omega
  by_cases h2 : 100 < F
  · have h2' : (100 : Int) < (F : Int) := by omega
    go_enter Try.func3, Try.ntmps3
    go_wp2_with fail
    refine (awake_any _).mono ?_
    rintro e w1 ⟨rfl, hb1⟩
    go_wp2
    go_ret
    exact ⟨rfl, bon (ba1 _ _) hb1⟩
  have h2' : ¬ (100 : Int) < (F : Int) := by omega
  by_cases h3 : 100 < M
  · have h3' : (100 : Int) < (M : Int) := by omega
    go_enter Try.func3, Try.ntmps3
    go_wp2_with fail
    refine (awake_any _).mono ?_
    rintro e w1 ⟨rfl, hb1⟩
    go_wp2
    go_ret
    exact ⟨rfl, bon (ba1 _ _) hb1⟩
  have h3' : ¬ (100 : Int) < (M : Int) := by omega
  have HH := Lib.hid (HA.out (by omega) (by omega) (by omega))
  clear HA
  go_enter Try.func3, Try.ntmps3
  go_wp2_with fail
  refine (awake_any _).mono ?_
  rintro e w1 ⟨rfl, hb1⟩
  have b1 := (Box.new w 25 #[.slice Ag N cg, .slice Ab M cb, .slice Af F cf]).up hb1
  have hw1 := bon (ba1 w _) hb1
  obtain ⟨⟨c0, c1, c2⟩, _⟩ := b1.three
  clear hb1
  go_wp2_with fail
  refine (told_any (HH.out.up hw1) id hid).mono ?_
  rintro e w2 ⟨rfl, hb2⟩
  have hw2 := bon hw1 hb2
  clear c0 c1 c2 b1 hb2
  go_wp2_with fail
  refine (new_any room _).mono ?_
  rintro e w3 ⟨A1, N1, p1, B1, M1, q1, C1, F1, r1, rfl, k1, hb3⟩
  go_wp2_with fail
  refine (rnew_any room _).mono ?_
  rintro e w4 ⟨A2, N2, p2, B2, M2, q2, C2, F2, r2, rfl, k2, hb4⟩
  obtain ⟨n1, n2, n3⟩ := k1.lens
  obtain ⟨m1, m2, m3⟩ := k2.lens
  obtain rfl : N2 = N1 := by omega
  obtain rfl : M2 = M1 := by omega
  obtain rfl : F2 = F1 := by omega
  clear n1 n2 n3 m1 m2 m3
  have HS := Lib.hid (same_any ((k1.up hb4).sm (sm_new room)) (k2.sm (sm_new room)))
  clear k1 k2
  go_wp2_with fail
  refine HS.out.mono ?_
  rintro e w5 ⟨rfl, hb5⟩
  go_wp2
  go_ret
  exact ⟨rfl, bon (bon (bon hw2 hb3) hb4) hb5⟩

end Go.Proofs.Ytkglgbbekmljcaa
