/-
  The walks of the document's own answers Find and Same (lockageref01).
-/
import Derived.Test.YtbjjolfefegcbaaRef3
namespace Go.Proofs.Ytbjjolfefegcbaa
open Go.RowKit

theorem occ_iff (D : List UInt8) (s : ByteArray) (i : Nat) : (((⟨D.toArray⟩ : ByteArray).extract i (i + s.size)).toList == s.toList) = Lib.occAt D s.data.toList i := by
  have e : ((⟨D.toArray⟩ : ByteArray).extract i (i + s.size)).toList = (D.drop i).take s.data.toList.length := by
    rw [Lib.toList_data, Lib.extract_data, ← Lib.size_eq, show i + s.size - i = s.size by omega]
  rw [e, Lib.toList_data]
  unfold Lib.occAt
  rw [Bool.eq_iff_iff, List.isPrefixOf_iff_prefix, List.prefix_iff_eq_take, beq_iff_eq]
  exact eq_comm

theorem occ_far (D s : List UInt8) (i : Nat) (h : D.length < i + s.length) (h0 : i ≤ D.length) : Lib.occAt D s i = false := by
  unfold Lib.occAt
  rw [← Bool.not_eq_true, List.isPrefixOf_iff_prefix]
  intro hp
  have := hp.length_le
  simp at this
  omega

set_option maxHeartbeats 1000000 in
theorem rfind_any (A : Option Addr) (c : Nat) (f m : Int) (xs : List UInt8) (s : ByteArray) (w : World) (hB : Bs w w.heap.size A xs) (hs : s.size ≤ 100000000) :
    Calls Try.prog 21 #[rv A xs.length c f m, .string s] w (IntEnds (Lib.index (datB xs f m) s.data.toList) w) := by
  have hdl := datB_length xs f m
  go_enter Try.func21, Try.ntmps21
  go_wp2_with fail
  refine (rdata_any A c f m xs _ (hB.up (ba1 _ _))).mono ?_
  rintro e w2 ⟨rfl, hbl2⟩
  have hb2 := bon (ba1 w _) hbl2
  clear hbl2
  generalize datB xs f m = D at *
  go_wp2_with fail
  go_loop [6] (fun c6 => ∃ i : Nat, c6 = .int .i64 (i : Int) ∧ i ≤ D.length + 1 ∧ ∀ j, j < i → Lib.occAt D s.data.toList j = false) (fun c6 => D.length + 1 - (intOf c6).toNat)
  case atStart => exact ⟨0, rfl, Nat.zero_le _, fun j hj => absurd hj (by omega)⟩
  case round =>
    obtain ⟨i, rfl, hi, hno⟩ := hrel
    have HN := Lib.hid hno
    clear hno
    have hsz := Lib.size_eq s
    by_cases hle : i + s.size ≤ D.length
    · have hle' : (i : Int) + (s.size : Int) ≤ (D.length : Int) := by omega
      have ho := occ_iff D s i
      cases hoc : Lib.occAt D s.data.toList i with
      | true =>
        rw [hoc] at ho
        have HF := Lib.hid (Lib.index_first (s := D) (by omega) hoc HN.out)
        clear hsz hoc
        go_wp2
        go_ret
        exact ⟨ret_int HF.out.symm, hb2⟩
      | false =>
        rw [hoc] at ho
        have HF := Lib.hid hoc
        clear hsz hoc
        go_wp2
        go_round
        case rel =>
          refine ⟨i + 1, by go_num, by omega, fun j hj => ?_⟩
          by_cases h : j < i
          · exact HN.out j h
          · obtain rfl : j = i := by omega
            exact HF.out
        case measure => simp [intOf]; omega
    · have hle' : ¬ ((i : Int) + (s.size : Int) ≤ (D.length : Int)) := by omega
      have hf0 : Lib.index D s.data.toList = -1 := Lib.index_none (fun j hj => by
        by_cases h : j < i
        · exact HN.out j h
        · exact occ_far D _ j (by omega) hj)
      have HF := Lib.hid hf0
      clear hsz hf0
      go_wp2
      go_ret
      exact ⟨ret_int HF.out.symm, hb2⟩

set_option maxHeartbeats 1000000 in
/-- rings that read alike are the same -/
theorem same_any (A A' : Option Addr) (n c c' : Nat) (f m : Int) (xs : List UInt8) (w : World) (HX : Hid (xs.length = n)) (hB : Bs w w.heap.size A xs) (hB' : Bs w w.heap.size A' xs) :
    Calls Try.prog 8 #[.agg #[.slice A n c, .int .i64 f, .int .i64 m], .agg #[.slice A' n c', .int .i64 f, .int .i64 m]] w fun e w' => e = .returned (.bool true) ∧ Below w.heap.size w w' := by
  have h1 : ∀ o o' : Obj, (convert 22 9 (.slice A n c)).run Try.prog ((w.alloc o).alloc o') = .ok (.string ⟨xs.toArray⟩) ((w.alloc o).alloc o') := fun o o' => by
    rw [← HX.out]
    exact conv_any ((w.alloc o).alloc o') _ c A xs (hB.up (ba2 w o o'))
  have h2 : ∀ o o' : Obj, (convert 22 9 (.slice A' n c')).run Try.prog ((w.alloc o).alloc o') = .ok (.string ⟨xs.toArray⟩) ((w.alloc o).alloc o') := fun o o' => by
    rw [← HX.out]
    exact conv_any ((w.alloc o).alloc o') _ c' A' xs (hB'.up (ba2 w o o'))
  go_enter Try.func8, Try.ntmps8
  go_wp2
  go_ret
  exact ⟨rfl, ba2 _ _ _⟩

end Go.Proofs.Ytbjjolfefegcbaa
