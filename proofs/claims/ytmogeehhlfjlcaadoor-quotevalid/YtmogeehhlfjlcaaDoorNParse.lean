/-
  The walk of num's own Parse.
-/
import Derived.Test.YtmogeehhlfjlcaaDoorNOwn
namespace Go.Proofs.YtmogeehhlfjlcaaDoor.Nm
open Go.RowKit

/-- a number that is held where it is too big -/
def capN (n : Int) : Int := if n ≤ 9007199254740992 then n else 9007199254740993

theorem cap_step {n v base : Int} (hv : 0 ≤ v) (hb : 1 ≤ base) : capN (capN n * base + v) = capN (n * base + v) := by
  unfold capN
  by_cases h : n ≤ 9007199254740992
  · rw [if_pos h]
  · rw [if_neg h]
    have h1 : 9007199254740993 * base ≤ n * base := Int.mul_le_mul_of_nonneg_right (by omega) (by omega)
    have h2 : 9007199254740993 * 1 ≤ 9007199254740993 * base := Int.mul_le_mul_of_nonneg_left hb (by omega)
    rw [if_neg (by omega), if_neg (by omega)]
theorem cap_bd {n : Int} (h0 : 0 ≤ n) : 0 ≤ capN n ∧ capN n ≤ 9007199254740993 := by unfold capN; split <;> omega
theorem bound_cap {n : Int} (h0 : 0 ≤ n) : boundN (capN n) = if n ≤ 9007199254740992 then (n, 0) else (0, 3) := by
  unfold capN
  split
  · rw [boundN, if_pos (fit_iff.2 (by omega))]
  · rw [boundN, if_neg (by rw [fit_iff]; omega)]

set_option maxHeartbeats 1000000 in
theorem parse_bad' (s : ByteArray) (base : Int) (w : World) (hbad : baseN base = false ∨ (baseN base = true ∧ s.toList.isEmpty = true)) : Calls Tryd.prog 45 #[.string s, .int .i64 base] w fun e w' => e = .returned (.tuple #[.int .i64 0, .int .i64 1]) ∧ w' = w := by
  rcases hbad with h1 | ⟨h1, h2⟩
  all_goals
    go_enter Tryd.func45, Tryd.ntmps45
    go_wp2_with fail
    refine (isBase_any base _).mono ?_
    rintro e w' ⟨rfl, rfl⟩
    rw [h1]
    go_wp2
    refine bodyPost_ret (v := .tuple #[.int .i64 0, .int .i64 1]) (by simp [results, Tryd.results45, go_sem]) rfl ?_
    exact ⟨rfl, rfl⟩

set_option maxRecDepth 100000 in
set_option maxHeartbeats 4000000 in
theorem parse_good' (s : ByteArray) (base : Int) (w : World) (hs : s.size ≤ maxLen) (hne : s.toList.isEmpty = false) (hb : baseN base = true) (hb1 : 1 ≤ base) (hb2 : base ≤ 16) (hsp : parseN s.data.toList base = if digsN base s.data.toList = true then (if numN base 0 s.data.toList ≤ 9007199254740992 then (numN base 0 s.data.toList, 0) else (0, 3)) else (0, 1)) :
    Calls Tryd.prog 45 #[.string s, .int .i64 base] w fun e w' => e = .returned (.tuple #[.int .i64 (parseN s.data.toList base).1, .int .i64 (parseN s.data.toList base).2]) ∧ w' = w := by
  unfold maxLen at hs
  have HSP := Lib.hid hsp
  clear hsp
  go_enter Tryd.func45, Tryd.ntmps45
  go_wp2_with fail
  refine (isBase_any base _).mono ?_
  rintro e w1 ⟨rfl, rfl⟩
  rw [hb]
  go_wp2_with fail
  go_loopw [19, 6] (fun i m wr => ∃ (k : Nat) (n : Int), k ≤ s.size ∧ i = .int .i64 (k : Int) ∧ m = .int .i64 n ∧ 0 ≤ n ∧ n ≤ 9007199254740993 ∧ Hid ((∀ j, j < k → 0 ≤ valN (by_ s j) base) ∧ 0 ≤ numN base 0 (s.data.toList.take k) ∧ n = capN (numN base 0 (s.data.toList.take k))) ∧ w1 = wr) (fun i _ _ => s.size - (intOf i).toNat)
  case atStart => exact ⟨0, 0, Nat.zero_le _, rfl, rfl, by omega, by omega, Lib.hid ⟨fun j hj => absurd hj (by omega), by simp [numN], rfl⟩, rfl⟩
  case round =>
    obtain ⟨k, n, hk, rfl, rfl, hn0, hn1, HN, rfl⟩ := hrel
    by_cases hlt : k < s.size
    · have hby := at_by hlt
      obtain ⟨v, hv⟩ : ∃ v, valN (by_ s k) base = v := ⟨_, rfl⟩
      have HC : Hid (∀ W, Calls Tryd.prog 52 #[.int .u8 (s[k].toNat : Int), .int .i64 base] W (DigEnds v W)) := Lib.hid (fun W => by have := digit_any s[k].toNat base W (UInt8.toNat_lt _); rw [hby, hv] at this; rw [hby]; exact this)
      have hv1 : v < base := by rw [← hv]; exact (val_lt (by omega)).2
      have HV := Lib.hid hv
      clear hv hby
      by_cases hneg : v < 0
      · have HE : Hid (parseN s.data.toList base = (0, 1)) := Lib.hid (by rw [HSP.out, if_neg]; rw [digs_iff]; intro hh; have := hh k hlt; rw [HV.out] at this; omega)
        go_wp2_with fail
        refine (HC.out _).mono ?_
        rintro e w' ⟨rfl, rfl⟩
        rw [if_pos (by omega), decide_eq_false (by omega)]
        go_wp2
        refine bodyPost_ret (v := .tuple #[.int .i64 0, .int .i64 1]) (by simp [results, Tryd.results45, go_sem]) rfl ?_
        exact ⟨ret_two HE.out, rfl⟩
      · have hp0 : 0 ≤ n * base := Int.mul_nonneg hn0 (by omega)
        have hp1 : n * base ≤ 9007199254740993 * 16 := Int.le_trans (Int.mul_le_mul_of_nonneg_left hb2 hn0) (Int.mul_le_mul_of_nonneg_right hn1 (by omega))
        have HT : Hid (numN base 0 (s.data.toList.take (k + 1)) = numN base 0 (s.data.toList.take k) * base + v) := Lib.hid (by
          rw [take_succ hlt, num_app]
          show numN base 0 (s.data.toList.take k) * base + valN (by_ s k) base = _
          rw [HV.out])
        have HM : Hid (capN (n * base + v) = capN (numN base 0 (s.data.toList.take (k + 1)))) := Lib.hid (by
          rw [HT.out, HN.out.2.2]
          exact cap_step (by omega) hb1)
        have HP : Hid (0 ≤ numN base 0 (s.data.toList.take (k + 1))) := Lib.hid (by
          rw [HT.out]
          have := Int.mul_nonneg HN.out.2.1 (show 0 ≤ base by omega)
          omega)
        go_wp2_with fail
        refine (HC.out _).mono ?_
        rintro e w' ⟨rfl, rfl⟩
        rw [if_neg (by omega), decide_eq_true (by omega)]
        have hc := cap_bd (n := n * base + v) (by omega)
        have HW : Hid ((if 9007199254740993 < n * base + v then 9007199254740993 else n * base + v) = capN (n * base + v)) := Lib.hid (by
          rw [capN]
          split <;> split <;> omega)
        have HW2 : Hid (min (n * base + v) 9007199254740993 = capN (n * base + v)) := Lib.hid (by
          rw [capN]
          split <;> omega)
        go_wp2
        refine ⟨⟨k + 1, capN (n * base + v), by omega, by go_num, by first | rw [HW.out] | rw [HW2.out], hc.1, hc.2, Lib.hid ⟨fun j hj => ?_, HP.out, HM.out⟩, trivial⟩, by simp [intOf]; omega⟩
        by_cases hjk : j < k
        · exact HN.out.1 j hjk
        · have : j = k := by omega
          subst this
          rw [HV.out]
          omega
    · have : k = s.size := by omega
      subst this
      have hall : s.data.toList.take s.size = s.data.toList := List.take_of_length_le (by simp)
      have HE : Hid (parseN s.data.toList base = boundN n) := Lib.hid (by
        obtain ⟨h1, h2, h3⟩ := HN.out
        rw [hall] at h2 h3
        rw [HSP.out, if_pos (digs_iff.2 h1), h3, bound_cap h2])
      clear hall
      go_wp2_with fail
      refine (bounded_any n _).mono ?_
      rintro e w' ⟨rfl, rfl⟩
      go_wp2
      refine bodyPost_ret (v := .tuple #[.int .i64 (boundN n).1, .int .i64 (boundN n).2]) (by simp [results, Tryd.results45, go_sem]) rfl ?_
      exact ⟨ret_two HE.out, rfl⟩

theorem parse_any (s : ByteArray) (base : Int) (w : World) (hs : s.size ≤ maxLen) : Calls Tryd.prog 45 #[.string s, .int .i64 base] w fun e w' => e = .returned (.tuple #[.int .i64 (parseN s.data.toList base).1, .int .i64 (parseN s.data.toList base).2]) ∧ w' = w := by
  by_cases hg : (base = 10 ∨ base = 16) ∧ s.toList.isEmpty = false
  · refine parse_good' s base w hs hg.2 (by rcases hg.1 with rfl | rfl <;> rfl) (by omega) (by omega) ?_
    have hne : s.data.toList ≠ [] := by
      intro e
      have h2 := hg.2
      rw [Go.ByteArray.toList_eq, e] at h2
      cases h2
    rw [parseN]
    by_cases hd : digsN base s.data.toList = true
    · rw [if_pos ⟨hg.1, hne, hd⟩, if_pos hd]
    · rw [if_neg (fun hh => hd hh.2.2), if_neg hd]
  · have he : parseN s.data.toList base = (0, 1) := by
      rw [parseN, if_neg]
      rintro ⟨h1, h2, _⟩
      refine hg ⟨h1, ?_⟩
      rw [Go.ByteArray.toList_eq]
      cases hd : s.data.toList with
      | nil => exact absurd hd h2
      | cons x r => rfl
    rw [he]
    refine parse_bad' s base w ?_
    cases hb : baseN base with
    | false => exact .inl rfl
    | true =>
      refine .inr ⟨rfl, ?_⟩
      cases hi : s.toList.isEmpty with
      | true => rfl
      | false => exact absurd ⟨by simpa [baseN] using hb, hi⟩ hg

end Go.Proofs.YtmogeehhlfjlcaaDoor.Nm
