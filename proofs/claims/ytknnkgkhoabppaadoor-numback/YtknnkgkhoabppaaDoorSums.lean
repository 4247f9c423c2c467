/-
  The walk of the law NumSums.
-/
import Derived.Test.YtknnkgkhoabppaaDoorLaw1
namespace Go.Proofs.YtknnkgkhoabppaaDoor
open Go.RowKit

/-- what is left of a number, masked by one less than the greatest -/
theorem masked (a : Int) : ∃ m : Nat, bits BinOp.and IntKind.i64 a 9007199254740991 = (m : Int) ∧ m ≤ 9007199254740991 := by
  refine ⟨(BitVec.ofInt 64 a &&& BitVec.ofInt 64 9007199254740991).toNat, ?_, ?_⟩
  · have h : (BitVec.ofInt 64 a &&& BitVec.ofInt 64 9007199254740991).toNat ≤ 9007199254740991 := by
      rw [BitVec.toNat_and]
      exact Nat.le_trans Nat.and_le_right (by decide)
    show IntKind.i64.wrap ((BitVec.ofInt 64 a &&& BitVec.ofInt 64 9007199254740991).toNat : Int) = _
    exact IntWalk.i64_in _ (by omega)
  · rw [BitVec.toNat_and]
    exact Nat.le_trans Nat.and_le_right (by decide)

set_option maxRecDepth 100000 in
set_option maxHeartbeats 1000000 in
theorem sums_aa (a b : Int) (w : World) (ht : Tabs w) (x y : Nat) (z : Int) (hx : bits BinOp.and IntKind.i64 a 9007199254740991 = (x : Int)) (hx1 : x ≤ 9007199254740991) (hy : bits BinOp.and IntKind.i64 b 9007199254740991 = (y : Int)) (hy1 : y ≤ 9007199254740991) (hs : (x : Int) + y ≤ 9007199254740992) (hp0 : 0 ≤ z) (hp : z ≤ 9007199254740992) (hy0 : 0 < y) (t1 : z.tdiv (y : Int) = x) (t2 : z.tmod (y : Int) = 0)
    (H1 : Hid (∀ W, Calls Tryd.prog 7 #[.int .i64 (x : Int), .int .i64 (y : Int)] W (TwoEnds ((x : Int) + y, 0) W))) (H2 : Hid (∀ W, Calls Tryd.prog 9 #[.int .i64 (x : Int), .int .i64 (y : Int)] W (TwoEnds (z, 0) W))) : Calls Tryd.prog 6 #[.int .i64 a, .int .i64 b] w (BoolEnds true w) := by
  go_enter Tryd.func6, Tryd.ntmps6
  go_wp2_with fail
  refine (awake_any _ ht).mono ?_
  rintro e w1 ⟨rfl, hb1⟩
  go_wp2_with fail
  refine (H1.out _).mono ?_
  rintro e w2 ⟨rfl, hb2⟩
  go_wp2_with fail
  refine (H2.out _).mono ?_
  rintro e w3 ⟨rfl, hb3⟩
  go_wp2
  go_ret
  exact ⟨rfl, bon' (bon' hb1 hb2) hb3⟩

set_option maxRecDepth 100000 in
set_option maxHeartbeats 1000000 in
theorem sums_ac (a b : Int) (w : World) (ht : Tabs w) (x y : Nat) (hx : bits BinOp.and IntKind.i64 a 9007199254740991 = (x : Int)) (hx1 : x ≤ 9007199254740991) (hy : bits BinOp.and IntKind.i64 b 9007199254740991 = (y : Int)) (hy1 : y ≤ 9007199254740991) (hs : (x : Int) + y ≤ 9007199254740992) 
    (H1 : Hid (∀ W, Calls Tryd.prog 7 #[.int .i64 (x : Int), .int .i64 (y : Int)] W (TwoEnds ((x : Int) + y, 0) W))) (H2 : Hid (∀ W, Calls Tryd.prog 9 #[.int .i64 (x : Int), .int .i64 (y : Int)] W (TwoEnds (0, 3) W))) : Calls Tryd.prog 6 #[.int .i64 a, .int .i64 b] w (BoolEnds true w) := by
  go_enter Tryd.func6, Tryd.ntmps6
  go_wp2_with fail
  refine (awake_any _ ht).mono ?_
  rintro e w1 ⟨rfl, hb1⟩
  go_wp2_with fail
  refine (H1.out _).mono ?_
  rintro e w2 ⟨rfl, hb2⟩
  go_wp2_with fail
  refine (H2.out _).mono ?_
  rintro e w3 ⟨rfl, hb3⟩
  go_wp2
  go_ret
  exact ⟨rfl, bon' (bon' hb1 hb2) hb3⟩

set_option maxRecDepth 100000 in
set_option maxHeartbeats 1000000 in
theorem sums_ba (a b : Int) (w : World) (ht : Tabs w) (x y : Nat) (z : Int) (hx : bits BinOp.and IntKind.i64 a 9007199254740991 = (x : Int)) (hx1 : x ≤ 9007199254740991) (hy : bits BinOp.and IntKind.i64 b 9007199254740991 = (y : Int)) (hy1 : y ≤ 9007199254740991) (hs : 9007199254740992 < (x : Int) + y) (hp0 : 0 ≤ z) (hp : z ≤ 9007199254740992) (hy0 : 0 < y) (t1 : z.tdiv (y : Int) = x) (t2 : z.tmod (y : Int) = 0)
    (H1 : Hid (∀ W, Calls Tryd.prog 7 #[.int .i64 (x : Int), .int .i64 (y : Int)] W (TwoEnds (0, 3) W))) (H2 : Hid (∀ W, Calls Tryd.prog 9 #[.int .i64 (x : Int), .int .i64 (y : Int)] W (TwoEnds (z, 0) W))) : Calls Tryd.prog 6 #[.int .i64 a, .int .i64 b] w (BoolEnds true w) := by
  go_enter Tryd.func6, Tryd.ntmps6
  go_wp2_with fail
  refine (awake_any _ ht).mono ?_
  rintro e w1 ⟨rfl, hb1⟩
  go_wp2_with fail
  refine (H1.out _).mono ?_
  rintro e w2 ⟨rfl, hb2⟩
  go_wp2_with fail
  refine (H2.out _).mono ?_
  rintro e w3 ⟨rfl, hb3⟩
  go_wp2
  go_ret
  exact ⟨ret_bool (a := !decide ((x : Int) + y ≤ 9007199254740992)) (by rw [decide_eq_false (by omega)]; rfl), bon' (bon' hb1 hb2) hb3⟩

set_option maxRecDepth 100000 in
set_option maxHeartbeats 1000000 in
theorem sums_bc (a b : Int) (w : World) (ht : Tabs w) (x y : Nat) (hx : bits BinOp.and IntKind.i64 a 9007199254740991 = (x : Int)) (hx1 : x ≤ 9007199254740991) (hy : bits BinOp.and IntKind.i64 b 9007199254740991 = (y : Int)) (hy1 : y ≤ 9007199254740991) (hs : 9007199254740992 < (x : Int) + y) 
    (H1 : Hid (∀ W, Calls Tryd.prog 7 #[.int .i64 (x : Int), .int .i64 (y : Int)] W (TwoEnds (0, 3) W))) (H2 : Hid (∀ W, Calls Tryd.prog 9 #[.int .i64 (x : Int), .int .i64 (y : Int)] W (TwoEnds (0, 3) W))) : Calls Tryd.prog 6 #[.int .i64 a, .int .i64 b] w (BoolEnds true w) := by
  go_enter Tryd.func6, Tryd.ntmps6
  go_wp2_with fail
  refine (awake_any _ ht).mono ?_
  rintro e w1 ⟨rfl, hb1⟩
  go_wp2_with fail
  refine (H1.out _).mono ?_
  rintro e w2 ⟨rfl, hb2⟩
  go_wp2_with fail
  refine (H2.out _).mono ?_
  rintro e w3 ⟨rfl, hb3⟩
  go_wp2
  go_ret
  exact ⟨ret_bool (a := !decide ((x : Int) + y ≤ 9007199254740992)) (by rw [decide_eq_false (by omega)]; rfl), bon' (bon' hb1 hb2) hb3⟩

set_option maxRecDepth 100000 in
set_option maxHeartbeats 1000000 in
theorem sums_ab (a b : Int) (w : World) (ht : Tabs w) (x : Nat) (hx : bits BinOp.and IntKind.i64 a 9007199254740991 = (x : Int)) (hx1 : x ≤ 9007199254740991) (hy : bits BinOp.and IntKind.i64 b 9007199254740991 = 0)
    (H1 : Hid (∀ W, Calls Tryd.prog 7 #[.int .i64 (x : Int), .int .i64 0] W (TwoEnds ((x : Int), 0) W))) (H2 : Hid (∀ W, Calls Tryd.prog 9 #[.int .i64 (x : Int), .int .i64 0] W (TwoEnds (0, 0) W))) : Calls Tryd.prog 6 #[.int .i64 a, .int .i64 b] w (BoolEnds true w) := by
  go_enter Tryd.func6, Tryd.ntmps6
  go_wp2_with fail
  refine (awake_any _ ht).mono ?_
  rintro e w1 ⟨rfl, hb1⟩
  go_wp2_with fail
  refine (H1.out _).mono ?_
  rintro e w2 ⟨rfl, hb2⟩
  go_wp2_with fail
  refine (H2.out _).mono ?_
  rintro e w3 ⟨rfl, hb3⟩
  go_wp2
  go_ret
  exact ⟨ret_bool (a := decide ((x : Int) ≤ 9007199254740992)) (decide_eq_true (by omega)), bon' (bon' hb1 hb2) hb3⟩

theorem sums_any (a b : Int) (w : World) (ht : Tabs w) : Calls Tryd.prog 6 #[.int .i64 a, .int .i64 b] w (BoolEnds true w) := by
  obtain ⟨x, hx, hx1⟩ := masked a
  obtain ⟨y, hy, hy1⟩ := masked b
  have fx : fitN (x : Int) = true := fit_iff.2 (by omega)
  have fy : fitN (y : Int) = true := fit_iff.2 (by omega)
  have HA : addN (x : Int) (y : Int) = if (x : Int) + y ≤ 9007199254740992 then ((x : Int) + y, 0) else (0, 3) := by rw [addN, fx, fy]; rfl
  have HM : mulN (x : Int) (y : Int) = if (x : Int) * y ≤ 9007199254740992 then ((x : Int) * y, 0) else (0, 3) := by rw [mulN, fx, fy]; rfl
  by_cases hy0 : y = 0
  · subst hy0
    have h1 : addN (x : Int) 0 = ((x : Int), 0) := by
      have := HA
      rw [if_pos (by omega)] at this
      simpa using this
    have h2 : mulN (x : Int) 0 = (0, 0) := by
      have := HM
      rw [if_pos (by simp)] at this
      simpa using this
    exact sums_ab a b w ht x hx hx1 hy (Lib.hid fun W => add_at _ _ W h1) (Lib.hid fun W => mul_at _ _ W h2)
  · have hp0 : (0 : Int) ≤ (x : Int) * y := Int.mul_nonneg (by omega) (by omega)
    have t1 : ((x : Int) * y).tdiv (y : Int) = x := by rw [Int.tdiv_eq_ediv_of_nonneg hp0]; exact Int.mul_ediv_cancel _ (by omega)
    have t2 : ((x : Int) * y).tmod (y : Int) = 0 := by rw [Int.tmod_eq_emod_of_nonneg hp0]; exact Int.mul_emod_left _ _
    by_cases hs : (x : Int) + y ≤ 9007199254740992
    · rw [if_pos hs] at HA
      by_cases hp : (x : Int) * y ≤ 9007199254740992
      · rw [if_pos hp] at HM
        exact sums_aa a b w ht x y _ hx hx1 hy hy1 hs hp0 hp (by omega) t1 t2 (Lib.hid fun W => add_at _ _ W HA) (Lib.hid fun W => mul_at _ _ W HM)
      · rw [if_neg hp] at HM
        exact sums_ac a b w ht x y hx hx1 hy hy1 hs (Lib.hid fun W => add_at _ _ W HA) (Lib.hid fun W => mul_at _ _ W HM)
    · rw [if_neg hs] at HA
      by_cases hp : (x : Int) * y ≤ 9007199254740992
      · rw [if_pos hp] at HM
        exact sums_ba a b w ht x y _ hx hx1 hy hy1 (by omega) hp0 hp (by omega) t1 t2 (Lib.hid fun W => add_at _ _ W HA) (Lib.hid fun W => mul_at _ _ W HM)
      · rw [if_neg hp] at HM
        exact sums_bc a b w ht x y hx hx1 hy hy1 (by omega) (Lib.hid fun W => add_at _ _ W HA) (Lib.hid fun W => mul_at _ _ W HM)

end Go.Proofs.YtknnkgkhoabppaaDoor
