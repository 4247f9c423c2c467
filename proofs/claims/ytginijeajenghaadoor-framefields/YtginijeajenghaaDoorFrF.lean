/-
  The walk of the document's own Stays.
-/
import Derived.Test.YtginijeajenghaaDoorFrE
namespace Go.Proofs.YtginijeajenghaaDoor
open Go.RowKit

theorem contains_app (xs ys : List Bs) (v : Bs) : (xs ++ ys).contains v = (xs.contains v || ys.contains v) := by
  rw [Bool.eq_iff_iff, List.contains_iff_mem, List.mem_append, Bool.or_eq_true, List.contains_iff_mem, List.contains_iff_mem]

section
variable (m t : ByteArray) (st : Int) (r : ByteArray) (mi : Int) (A : Option Addr) (n c : Nat) (fs : List Fd) (w : World) (hL : Fs w ⟨A, n, c⟩ fs) (hn : n ≤ 4096) (hf : Few fs)
include hL hn hf

set_option maxRecDepth 100000 in
set_option maxHeartbeats 4000000 in
theorem rstays_any : Calls Tryd.prog 20 #[.agg #[.string m, .string t, .int .i64 st, .string r, .int .i64 mi, .slice A n c]] w (BoolEnds (staysH fs mi) w) := by
  have hb0 := ba1 w (.cells #[.string m, .string t, .int .i64 st, .string r, .int .i64 mi, .slice A n c] 25)
  have HG1 := Lib.hid (rget_any ⟨A, n, c⟩ fs cnN _ (hL.up hb0) hn (fun f hfm => (hf f hfm).1) (by decide))
  have HF1 := Lib.hid (getL_few (a := cnN) hf)
  have hgl := getL_len fs cnN
  rw [hL.len] at hgl
  have HD : Hid (staysH fs mi = staysN (itemsF (getL fs cnN)) mi) := Lib.hid rfl
  obtain ⟨Q, hQ⟩ : ∃ Q, staysH fs mi = Q := ⟨_, rfl⟩
  rw [hQ] at HD ⊢
  clear hQ
  generalize getL fs cnN = cc at *
  clear hL hf
  simp only [Sli.v, cnN] at HG1 hgl
  go_enter Tryd.func20, Tryd.ntmps20
  go_wp2_with fail
  have bh := Box.new w 25 #[.string m, .string t, .int .i64 st, .string r, .int .i64 mi, .slice A n c]
  obtain ⟨g, hg⟩ : ∃ g, w.heap.size = g := ⟨_, rfl⟩
  rw [hg] at bh ⊢
  clear hg
  generalize w.alloc (.cells #[.string m, .string t, .int .i64 st, .string r, .int .i64 mi, .slice A n c] 25) = W0 at *
  refine HG1.out.mono ?_
  rintro e w1 ⟨C, rfl, hC, hb1⟩
  have bh1 := bh.up hb1
  have HW1 := Lib.hid (bon hb0 hb1)
  clear bh hb0 hb1 HG1
  obtain ⟨AC, nC, cC⟩ := C
  have HC := Lib.hid hC
  have hlC := hC.len
  simp only at hlC
  have HLC := Lib.hid hlC
  have hnC : nC ≤ 4096 := by omega
  clear hC hlC hgl
  obtain ⟨_, _, _, _, c4, c5⟩ := bh1.six
  obtain ⟨B0, hB0⟩ : ∃ B, (mi == 1) = B := ⟨_, rfl⟩
  have HB0 := Lib.hid hB0
  clear hB0
  have hmm : (mi == 1) = B0 := HB0.out
  simp only
  go_wp2_with fail
  clear hmm c4 c5
  go_loopw [5, 4] (fun i o wr => ∃ (k : Nat) (b : Bool), k ≤ nC ∧ i = .int .i64 (k : Int) ∧ o = .bool b ∧ Hid (b = (B0 || (itemsF (cc.take k)).contains kaB)) ∧ Hid (Below w1.heap.size w1 wr)) (fun i _ _ => nC - (intOf i).toNat)
  case atStart => exact ⟨0, _, Nat.zero_le _, rfl, rfl, Lib.hid (by simp [itemsF]), Lib.hid (Below.refl _ _)⟩
  case round =>
    obtain ⟨k, b, hk, rfl, rfl, HX, HB⟩ := hrel
    by_cases hlt : k < nC
    · obtain ⟨bb, o, x, hA, hb, hx, c1⟩ := (HC.out.up HB.out).cell (k := k) hlt
      simp only at hA
      subst hA
      have hxs := HF1.out x (List.mem_of_getElem? hx)
      have HI := Lib.hid (fun W => ritems_any x hxs W)
      have HS := Lib.hid (itemsF_succ hx)
      clear hx
      have hki : (k : Int) < (nC : Int) := by omega
      have hk0 : (0 : Int) ≤ (k : Int) := by omega
      go_wp2_with fail
      refine (HI.out _).mono ?_
      rintro e w2 ⟨I, is, rfl, hI, hIs, hb2⟩
      have HB2 := Lib.hid (bon HB.out hb2)
      clear hb2 HI c1 HB
      obtain ⟨AI, nI, cI⟩ := I
      have hnI := Nat.le_trans hIs.le.1 hIs.le.2
      unfold maxLen at hnI
      have hlI := hIs.len
      simp only at hnI hlI
      have HLI := Lib.hid hlI
      have HIs := Lib.hid hIs
      have HII := Lib.hid hI
      clear hIs hlI hI
      simp only
      go_wp2_with fail
      go_loopw [7, 4] (fun i o wr' => ∃ (j : Nat) (b' : Bool), j ≤ nI ∧ i = .int .i64 (j : Int) ∧ o = .bool b' ∧ Hid (b' = (b || ((is.take j).map dl).contains kaB)) ∧ Hid (Below w2.heap.size w2 wr')) (fun i _ _ => nI - (intOf i).toNat)
      case atStart => exact ⟨0, _, Nat.zero_le _, rfl, rfl, Lib.hid (by simp), Lib.hid (Below.refl _ _)⟩
      case round =>
        obtain ⟨j, b', hj, rfl, rfl, HY, HBi⟩ := hrel
        by_cases hjt : j < nI
        · obtain ⟨b3, o3, z, hA, hb, hz, d1⟩ := (HIs.out.up HBi.out).cell (k := j) hjt
          simp only at hA
          subst hA
          have HH := Lib.hid (has_succ hz kaB)
          clear hz
          have hji : (j : Int) < (nI : Int) := by omega
          have hj0 : (0 : Int) ≤ (j : Int) := by omega
          by_cases hq : z = ⟨#[107, 101, 101, 112, 45, 97, 108, 105, 118, 101]⟩
          · have HE : Hid (true = (b || ((is.take (j + 1)).map dl).contains kaB)) := Lib.hid (by rw [HH.out, decide_eq_true (by rw [hq]; rfl)]; simp)
            subst hq
            go_wp2
            go_roundw
            case rel => exact ⟨j + 1, _, by omega, by go_num, rfl, HE, HBi⟩
            case measure => simp [intOf]; omega
          · have HE : Hid (b' = (b || ((is.take (j + 1)).map dl).contains kaB)) := Lib.hid (by rw [HH.out, HY.out, decide_eq_false (fun h : dl z = kaB => hq (dl_inj h)), Bool.or_false])
            have hrs : (z.toList == [107, 101, 101, 112, 45, 97, 108, 105, 118, 101]) = false := tl_lit (fun h => hq (dl_inj h))
            go_wp2
            go_roundw
            case rel => exact ⟨j + 1, _, by omega, by go_num, rfl, HE, HBi⟩
            case measure => simp [intOf]; omega
        · obtain rfl : j = nI := by omega
          have HE : Hid (b' = (B0 || (itemsF (cc.take (k + 1))).contains kaB)) := Lib.hid (by
            rw [HY.out, List.take_of_length_le (by rw [HLI.out]; exact Nat.le_refl _), HII.out, HX.out, HS.out, contains_app]
            simp [Bool.or_assoc])
          go_wp2
          go_roundw
          case rel => exact ⟨k + 1, _, by omega, by go_num, rfl, HE, Lib.hid (bon HB2.out HBi.out)⟩
          case measure => simp [intOf]; omega
    · obtain rfl : nC = k := by omega
      have HX1 : Hid (b = (B0 || (itemsF cc).contains kaB)) := Lib.hid (by rw [HX.out, List.take_of_length_le (by rw [HLC.out]; exact Nat.le_refl _)])
      obtain ⟨B1, hB1⟩ : ∃ B, (B0 || (itemsF cc).contains kaB) = B := ⟨_, rfl⟩
      have HB1 := Lib.hid hB1
      have hbB := HX1.out
      rw [hB1] at hbB
      subst hbB
      have HBx := HB
      clear hB1 HX1 HX HB
      go_wp2_with fail
      go_loopw [8, 4] (fun i o wr => ∃ (k : Nat) (b2 : Bool), k ≤ nC ∧ i = .int .i64 (k : Int) ∧ o = .bool b2 ∧ Hid (b2 = (b && !(itemsF (cc.take k)).contains cloB)) ∧ Hid (Below w1.heap.size w1 wr)) (fun i _ _ => nC - (intOf i).toNat)
      case atStart => exact ⟨0, _, Nat.zero_le _, rfl, rfl, Lib.hid (by simp [itemsF]), HBx⟩
      case round =>
        obtain ⟨k, b2, hk, rfl, rfl, HX, HB⟩ := hrel
        by_cases hlt : k < nC
        · obtain ⟨bb, o, x, hA, hb, hx, c1⟩ := (HC.out.up HB.out).cell (k := k) hlt
          simp only at hA
          subst hA
          have hxs := HF1.out x (List.mem_of_getElem? hx)
          have HI := Lib.hid (fun W => ritems_any x hxs W)
          have HS := Lib.hid (itemsF_succ hx)
          clear hx
          have hki : (k : Int) < (nC : Int) := by omega
          have hk0 : (0 : Int) ≤ (k : Int) := by omega
          go_wp2_with fail
          refine (HI.out _).mono ?_
          rintro e w2 ⟨I, is, rfl, hI, hIs, hb2⟩
          have HB2 := Lib.hid (bon HB.out hb2)
          clear hb2 HI c1 HB
          obtain ⟨AI, nI, cI⟩ := I
          have hnI := Nat.le_trans hIs.le.1 hIs.le.2
          unfold maxLen at hnI
          have hlI := hIs.len
          simp only at hnI hlI
          have HLI := Lib.hid hlI
          have HIs := Lib.hid hIs
          have HII := Lib.hid hI
          clear hIs hlI hI
          simp only
          go_wp2_with fail
          go_loopw [10, 4] (fun i o wr' => ∃ (j : Nat) (b' : Bool), j ≤ nI ∧ i = .int .i64 (j : Int) ∧ o = .bool b' ∧ Hid (b' = (b2 && !((is.take j).map dl).contains cloB)) ∧ Hid (Below w2.heap.size w2 wr')) (fun i _ _ => nI - (intOf i).toNat)
          case atStart => exact ⟨0, _, Nat.zero_le _, rfl, rfl, Lib.hid (by simp), Lib.hid (Below.refl _ _)⟩
          case round =>
            obtain ⟨j, b', hj, rfl, rfl, HY, HBi⟩ := hrel
            by_cases hjt : j < nI
            · obtain ⟨b3, o3, z, hA, hb, hz, d1⟩ := (HIs.out.up HBi.out).cell (k := j) hjt
              simp only at hA
              subst hA
              have HH := Lib.hid (has_succ hz cloB)
              clear hz
              have hji : (j : Int) < (nI : Int) := by omega
              have hj0 : (0 : Int) ≤ (j : Int) := by omega
              by_cases hq : z = ⟨#[99, 108, 111, 115, 101]⟩
              · have HE : Hid (false = (b2 && !((is.take (j + 1)).map dl).contains cloB)) := Lib.hid (by rw [HH.out, decide_eq_true (by rw [hq]; rfl)]; simp)
                subst hq
                go_wp2
                go_roundw
                case rel => exact ⟨j + 1, _, by omega, by go_num, rfl, HE, HBi⟩
                case measure => simp [intOf]; omega
              · have HE : Hid (b' = (b2 && !((is.take (j + 1)).map dl).contains cloB)) := Lib.hid (by rw [HH.out, HY.out, decide_eq_false (fun h : dl z = cloB => hq (dl_inj h)), Bool.or_false])
                have hrs : (z.toList == [99, 108, 111, 115, 101]) = false := tl_lit (fun h => hq (dl_inj h))
                go_wp2
                go_roundw
                case rel => exact ⟨j + 1, _, by omega, by go_num, rfl, HE, HBi⟩
                case measure => simp [intOf]; omega
            · obtain rfl : j = nI := by omega
              have HE : Hid (b' = (b && !(itemsF (cc.take (k + 1))).contains cloB)) := Lib.hid (by
                rw [HY.out, List.take_of_length_le (by rw [HLI.out]; exact Nat.le_refl _), HII.out, HX.out, HS.out, contains_app]
                simp [Bool.and_assoc])
              go_wp2
              go_roundw
              case rel => exact ⟨k + 1, _, by omega, by go_num, rfl, HE, Lib.hid (bon HB2.out HBi.out)⟩
              case measure => simp [intOf]; omega
        · obtain rfl : nC = k := by omega
          have HV : Hid (Q = b2) := Lib.hid (by
            rw [HX.out, List.take_of_length_le (by rw [HLC.out]; exact Nat.le_refl _), HD.out, staysN, ← HB1.out, ← HB0.out]
            cases (itemsF cc).contains cloB
            · simp [Bool.or_comm]
              cases hm : (mi == 1)
              · simp at hm; simp [hm]
              · simp at hm; simp [hm]
            · simp)
          go_wp2
          go_ret
          exact ⟨ret_bool HV.out.symm, bon HW1.out HB.out⟩
end
end Go.Proofs.YtginijeajenghaaDoor
