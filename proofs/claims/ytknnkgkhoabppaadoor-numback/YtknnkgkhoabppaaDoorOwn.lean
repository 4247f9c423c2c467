/-
  The walks of num's own Fits, isBase, bounded, Add, Mul and digit.
-/
import Derived.Test.YtknnkgkhoabppaaDoorRef3
namespace Go.Proofs.YtknnkgkhoabppaaDoor
open Go.RowKit

set_option maxHeartbeats 400000 in
theorem fits_any (n : Int) (w : World) : Calls Tryd.prog 12 #[.int .i64 n] w fun e w' => e = .returned (.bool (fitN n)) ∧ w' = w := by
  go_enter Tryd.func12, Tryd.ntmps12
  go_wp2
  all_goals
    go_ret
    exact ⟨ret_bool (by rw [Bool.eq_iff_iff]; simp [fitN]; try omega), rfl⟩

/-- is it a base? -/
def baseN (b : Int) : Bool := b == 10 || b == 16

set_option maxHeartbeats 400000 in
theorem isBase_any (b : Int) (w : World) : Calls Tryd.prog 19 #[.int .i64 b] w fun e w' => e = .returned (.bool (baseN b)) ∧ w' = w := by
  go_enter Tryd.func19, Tryd.ntmps19
  go_wp2
  all_goals
    go_ret
    exact ⟨ret_bool (by rw [Bool.eq_iff_iff]; simp [baseN]; try omega), rfl⟩

/-- a number, or that it is too big -/
def boundN (n : Int) : Int × Int := if fitN n then (n, 0) else (0, 3)

set_option maxHeartbeats 400000 in
theorem bounded_any (n : Int) (w : World) : Calls Tryd.prog 18 #[.int .i64 n] w fun e w' => e = .returned (.tuple #[.int .i64 (boundN n).1, .int .i64 (boundN n).2]) ∧ w' = w := by
  go_enter Tryd.func18, Tryd.ntmps18
  go_wp2_with fail
  refine (fits_any n w).mono ?_
  rintro e w' ⟨rfl, rfl⟩
  cases hf : fitN n with
  | false =>
    have HE : Hid (boundN n = (0, 3)) := Lib.hid (by simp [boundN, hf])
    clear hf
    go_wp2_with fail
    refine bodyPost_ret (v := .tuple #[.int .i64 0, .int .i64 3]) (by simp [results, Tryd.results18, go_sem]) rfl ?_
    exact ⟨ret_two HE.out, rfl⟩
  | true =>
    have HE : Hid (boundN n = (n, 0)) := Lib.hid (by simp [boundN, hf])
    clear hf
    go_wp2_with fail
    refine bodyPost_ret (v := .tuple #[.int .i64 n, .int .i64 0]) (by simp [results, Tryd.results18, go_sem]) rfl ?_
    exact ⟨ret_two HE.out, rfl⟩

set_option maxHeartbeats 1000000 in
theorem add_any (a b : Int) (w : World) : Calls Tryd.prog 7 #[.int .i64 a, .int .i64 b] w fun e w' => e = .returned (.tuple #[.int .i64 (addN a b).1, .int .i64 (addN a b).2]) ∧ w' = w := by
  go_enter Tryd.func7, Tryd.ntmps7
  go_wp2_with fail
  refine (fits_any a w).mono ?_
  rintro e w' ⟨rfl, rfl⟩
  cases ha : fitN a with
  | false =>
    have HE : Hid (addN a b = (0, 1)) := Lib.hid (by simp [addN, ha])
    clear ha
    go_wp2_with fail
    refine bodyPost_ret (v := .tuple #[.int .i64 0, .int .i64 1]) (by simp [results, Tryd.results7, go_sem]) rfl ?_
    exact ⟨ret_two HE.out, rfl⟩
  | true =>
    obtain ⟨a0, a1⟩ := fit_iff.1 ha
    have HA := Lib.hid ha
    clear ha
    go_wp2_with fail
    refine (fits_any b _).mono ?_
    rintro e w' ⟨rfl, rfl⟩
    cases hb : fitN b with
    | false =>
      have HE : Hid (addN a b = (0, 1)) := Lib.hid (by simp [addN, hb])
      clear hb
      go_wp2_with fail
      refine bodyPost_ret (v := .tuple #[.int .i64 0, .int .i64 1]) (by simp [results, Tryd.results7, go_sem]) rfl ?_
      exact ⟨ret_two HE.out, rfl⟩
    | true =>
      obtain ⟨b0, b1⟩ := fit_iff.1 hb
      have HE : Hid (addN a b = boundN (a + b)) := Lib.hid (by
        rw [addN, HA.out, hb]
        by_cases hc : a + b ≤ 9007199254740992
        · rw [boundN, if_pos (by rfl), if_pos hc, if_pos (fit_iff.2 (by omega))]
        · rw [boundN, if_pos (by rfl), if_neg hc, if_neg (by rw [fit_iff]; omega)])
      clear hb
      go_wp2_with fail
      refine (bounded_any (a + b) _).mono ?_
      rintro e w' ⟨rfl, rfl⟩
      go_wp2
      refine bodyPost_ret (v := .tuple #[.int .i64 (boundN (a + b)).1, .int .i64 (boundN (a + b)).2]) (by simp [results, Tryd.results7, go_sem]) rfl ?_
      exact ⟨ret_two HE.out, rfl⟩

set_option maxHeartbeats 1000000 in
theorem mul_any (a b : Int) (w : World) : Calls Tryd.prog 9 #[.int .i64 a, .int .i64 b] w fun e w' => e = .returned (.tuple #[.int .i64 (mulN a b).1, .int .i64 (mulN a b).2]) ∧ w' = w := by
  go_enter Tryd.func9, Tryd.ntmps9
  go_wp2_with fail
  refine (fits_any a w).mono ?_
  rintro e w' ⟨rfl, rfl⟩
  cases ha : fitN a with
  | false =>
    have HE : Hid (mulN a b = (0, 1)) := Lib.hid (by simp [mulN, ha])
    clear ha
    go_wp2_with fail
    refine bodyPost_ret (v := .tuple #[.int .i64 0, .int .i64 1]) (by simp [results, Tryd.results9, go_sem]) rfl ?_
    exact ⟨ret_two HE.out, rfl⟩
  | true =>
    obtain ⟨a0, a1⟩ := fit_iff.1 ha
    have HA := Lib.hid ha
    clear ha
    go_wp2_with fail
    refine (fits_any b _).mono ?_
    rintro e w' ⟨rfl, rfl⟩
    cases hb : fitN b with
    | false =>
      have HE : Hid (mulN a b = (0, 1)) := Lib.hid (by simp [mulN, hb])
      clear hb
      go_wp2_with fail
      refine bodyPost_ret (v := .tuple #[.int .i64 0, .int .i64 1]) (by simp [results, Tryd.results9, go_sem]) rfl ?_
      exact ⟨ret_two HE.out, rfl⟩
    | true =>
      obtain ⟨b0, b1⟩ := fit_iff.1 hb
      have HB := Lib.hid hb
      clear hb
      by_cases hz : b = 0
      · subst hz
        have HE : Hid (mulN a 0 = (a * 0, 0)) := Lib.hid (by simp [mulN, HA.out, HB.out])
        go_wp2
        refine bodyPost_ret (v := .tuple #[.int .i64 (a * 0), .int .i64 0]) (by simp [results, Tryd.results9, go_sem]) rfl ?_
        exact ⟨ret_two HE.out, rfl⟩
      · have hbp : 0 < b := by omega
        have hmb := mul_big (a := a) (M := 9007199254740992) hbp
        obtain ⟨q, hq⟩ : ∃ q, 9007199254740992 / b = q := ⟨_, rfl⟩
        have hq0 : 0 ≤ q := by rw [← hq]; exact Int.ediv_nonneg (by omega) (by omega)
        have hq1 : q ≤ 9007199254740992 := by rw [← hq]; exact Int.ediv_le_self _ (by omega)
        have t1 : (9007199254740992 : Int).tdiv b = q := by rw [Int.tdiv_eq_ediv_of_nonneg (by omega)]; exact hq
        have t2 : IntKind.i64.wrap q = q := IntWalk.i64_in _ (by omega)
        have hp0 : 0 ≤ a * b := Int.mul_nonneg a0 b0
        rw [hq] at hmb
        by_cases hc : a * b ≤ 9007199254740992
        · have HE : Hid (mulN a b = (a * b, 0)) := Lib.hid (by simp [mulN, HA.out, HB.out, hc])
          have hqa : ¬ q < a := by rw [hmb]; omega
          have t3 : IntKind.i64.wrap (a * b) = a * b := IntWalk.i64_in _ (by omega)
          clear hmb
          go_wp2
          refine bodyPost_ret (v := .tuple #[.int .i64 (a * b), .int .i64 0]) (by simp [results, Tryd.results9, go_sem]) rfl ?_
          exact ⟨ret_two HE.out, rfl⟩
        · have HE : Hid (mulN a b = (0, 3)) := Lib.hid (by simp [mulN, HA.out, HB.out, hc])
          have hqa : q < a := by rw [hmb]; omega
          clear hmb
          go_wp2
          refine bodyPost_ret (v := .tuple #[.int .i64 0, .int .i64 3]) (by simp [results, Tryd.results9, go_sem]) rfl ?_
          exact ⟨ret_two HE.out, rfl⟩

/-- a digit is handed back, or that it is none -/
def DigEnds (v : Int) (w : World) (e : Ending) (w' : World) : Prop := e = .returned (.tuple #[.int .i64 (if v < 0 then 0 else v), .bool (decide (0 ≤ v))]) ∧ w' = w

theorem ret_dig {x v : Int} {q : Bool} (h : x = if v < 0 then 0 else v) (h2 : q = decide (0 ≤ v)) : Ending.returned (.tuple #[.int .i64 x, .bool q]) = .returned (.tuple #[.int .i64 (if v < 0 then 0 else v), .bool (decide (0 ≤ v))]) := by rw [h, h2]

set_option maxHeartbeats 2000000 in
theorem digit_any (c : Nat) (base : Int) (w : World) (hc : c < 256) : Calls Tryd.prog 20 #[.int .u8 (c : Int), .int .i64 base] w (DigEnds (valN c base) w) := by
  obtain ⟨d, hd⟩ : ∃ d, digN c = d := ⟨_, rfl⟩
  have HV : Hid (valN c base = if base ≤ d then -1 else d) := Lib.hid (by rw [valN, hd])
  have hcase : (97 ≤ c ∧ c ≤ 102 ∧ d = (c : Int) - 87) ∨ (¬ (97 ≤ c ∧ c ≤ 102) ∧ 65 ≤ c ∧ c ≤ 70 ∧ d = (c : Int) - 55) ∨ (¬ (97 ≤ c ∧ c ≤ 102) ∧ ¬ (65 ≤ c ∧ c ≤ 70) ∧ 48 ≤ c ∧ c ≤ 57 ∧ d = (c : Int) - 48) ∨ (¬ (48 ≤ c ∧ c ≤ 57) ∧ ¬ (97 ≤ c ∧ c ≤ 102) ∧ ¬ (65 ≤ c ∧ c ≤ 70) ∧ d = -1) := by
    unfold digN at hd
    split at hd
    · omega
    · split at hd
      · omega
      · split at hd <;> omega
  clear hd
  go_enter Tryd.func20, Tryd.ntmps20
  rcases hcase with ⟨h1, h2, h3⟩ | ⟨h0, h1, h2, h3⟩ | ⟨h0, h4, h1, h2, h3⟩ | ⟨h0, h4, h5, h3⟩
  all_goals
    by_cases hb : base ≤ d
    · rw [if_pos hb] at HV
      subst h3
      go_wp2
      all_goals
        first
        | (exfalso; omega)
        | (refine bodyPost_ret (v := .tuple #[.int .i64 0, .bool false]) (by simp [results, Tryd.results20, go_sem]) rfl ?_; exact ⟨ret_dig (by rw [HV.out]; rfl) (by rw [HV.out]; rfl), rfl⟩)
    · rw [if_neg hb] at HV
      subst h3
      go_wp2
      all_goals
        first
        | (exfalso; omega)
        | (refine bodyPost_ret (v := .tuple #[.int .i64 0, .bool false]) (by simp [results, Tryd.results20, go_sem]) rfl ?_; exact ⟨ret_dig (by rw [HV.out]; rfl) (by rw [HV.out]; rfl), rfl⟩)
        | (refine bodyPost_ret (v := .tuple #[.int .i64 _, .bool true]) (by simp [results, Tryd.results20, go_sem]; rfl) rfl ?_; exact ⟨ret_dig (by rw [HV.out, if_neg (by omega)]; try omega) (by rw [HV.out]; simp; try omega), rfl⟩)

end Go.Proofs.YtknnkgkhoabppaaDoor
