/-
  The walk of the document's own Encode.
-/
import Derived.Test.YtaoajilgilbmmaaDoorCkA
import Derived.Test.YtaoajilgilbmmaaDoorNRef3
import Derived.Deep.RegionHeld3
namespace Go.Proofs.YtaoajilgilbmmaaDoor
open Go.RowKit

/-- Encode -/
def encC (s : Bs) (k : Int) : Bs × Int := if k < 1 ∨ 4000 < k ∨ 4000 < s.length then ([], 1) else (encL k.toNat s, 0)
/-- a text and an error are handed back -/
def EncEnds (q : Bs × Int) (w : World) (e : Ending) (w' : World) : Prop := ∃ t : ByteArray, e = .returned (.tuple #[.string t, .int .i64 q.2]) ∧ dl t = q.1 ∧ Below w.heap.size w w'
theorem enc_len (k : Nat) : ∀ (f : Nat) (s : Bs), s.length ≤ f → s.length ≤ 4000 → (encP k s).length ≤ 8 * s.length := by
  intro f
  induction f with
  | zero =>
    intro s hf _
    obtain rfl : s = [] := List.eq_nil_of_length_eq_zero (by omega)
    rw [enc_nil]
    simp
  | succ f ih =>
    intro s hf h4
    by_cases hs : s = [] ∨ k = 0
    · rw [encP, dif_pos hs]
      simp
    · have h1 : s ≠ [] := fun e => hs (.inl e)
      have h2 : 0 < k := by omega
      have hl : 0 < s.length := List.length_pos_iff.2 h1
      have z := (size_text (n := min k s.length) (by omega)).2.2
      have := ih (s.drop k) (by rw [List.length_drop]; omega) (by rw [List.length_drop]; omega)
      rw [enc_cons h2 h1]
      rw [List.length_drop] at this
      simp only [List.length_append, List.length_cons, List.length_nil, List.length_take]
      omega
theorem encP_drop {k i : Nat} {s : Bs} (hk : 0 < k) (hi : i < s.length) : encP k (s.drop i) = textN ((min k (s.length - i) : Nat) : Int) 16 ++ [13, 10] ++ (s.drop i).take k ++ [13, 10] ++ encP k (s.drop (i + k)) := by
  rw [enc_cons hk (fun e => by have := congrArg List.length e; rw [List.length_drop] at this; simp at this; omega), List.length_drop, List.drop_drop]

set_option maxRecDepth 100000 in
set_option maxHeartbeats 4000000 in
theorem rencode_any (s : ByteArray) (k : Int) (hs : s.size ≤ 4611686018427387904) (w : World) : Calls Tryd.prog 14 #[.string s, .int .i64 k] w (EncEnds (encC (dl s) k) w) := by
  obtain ⟨Q, hQ⟩ : ∃ Q, encC (dl s) k = Q := ⟨_, rfl⟩
  rw [hQ]
  have HD := Lib.hid hQ.symm
  clear hQ
  by_cases hbad : k < 1 ∨ 4000 < k ∨ 4000 < s.size
  · have HV : Hid (Q = ([], 1)) := Lib.hid (by rw [HD.out, encC, if_pos (by rw [dl_len]; exact hbad)])
    have hcase : k < 1 ∨ (¬ k < 1 ∧ 4000 < k) ∨ (¬ k < 1 ∧ ¬ 4000 < k ∧ 4000 < s.size) := by omega
    clear hbad HD
    rcases hcase with h1 | ⟨h1, h2⟩ | ⟨h1, h2, h3⟩
    all_goals
      go_enter Tryd.func14, Tryd.ntmps14
      go_wp2
      refine bodyPost_ret (v := .tuple #[.string ⟨#[]⟩, .int .i64 1]) (by simp [results, Tryd.results14, go_sem]) rfl ?_
      exact ⟨⟨#[]⟩, by rw [HV.out], by rw [HV.out], Below.refl _ _⟩
  · have h1 : ¬ k < 1 := by omega
    have h2 : ¬ 4000 < k := by omega
    have h3 : ¬ 4000 < s.size := by omega
    have h3i : ¬ (4000 : Int) < (s.size : Int) := by omega
    have HV : Hid (Q = (encL k.toNat (dl s), 0)) := Lib.hid (by rw [HD.out, encC, if_neg (by rw [dl_len]; exact hbad)])
    obtain ⟨K, rfl⟩ := Int.eq_ofNat_of_zero_le (show 0 ≤ k by omega)
    have hK0 : 0 < K := by omega
    have hK4 : K ≤ 4000 := by omega
    rw [Int.toNat_natCast] at HV
    have HEL := Lib.hid (enc_len K (dl s).length (dl s) (Nat.le_refl _) (by rw [dl_len]; omega))
    clear hbad HD hs
    go_enter Tryd.func14, Tryd.ntmps14
    go_wp2_with fail
    go_loopw [7, 6] (fun i o wr => ∃ (j : Nat) (T : ByteArray), i = .int .i64 (j : Int) ∧ o = .string T ∧ j ≤ 8000 ∧ T.size ≤ 32000 ∧ Hid (encP K (dl s) = dl T ++ encP K ((dl s).drop j)) ∧ Hid (Below w.heap.size w wr)) (fun i _ _ => s.size - (intOf i).toNat)
    case atStart => exact ⟨0, ⟨#[]⟩, rfl, rfl, by omega, by decide, Lib.hid rfl, Lib.hid (Below.refl _ _)⟩
    case round =>
      obtain ⟨j, T, rfl, rfl, hj8, hT, HX, HB⟩ := hrel
      by_cases hlt : j < s.size
      · have hji : (j : Int) < (s.size : Int) := by omega
        have hj0 : (0 : Int) ≤ (j : Int) := by omega
        obtain ⟨n, hn⟩ : ∃ n, min K (s.size - j) = n := ⟨_, rfl⟩
        have hn0 : 0 < n := by omega
        have hnK : n ≤ K := by omega
        have hns : n ≤ s.size - j := by omega
        have hn4 : n < 4096 := by omega
        have ts : IntKind.i64.wrap ((s.size : Int) - (j : Int)) = (s.size : Int) - (j : Int) := IntWalk.i64_in _ (by omega)
        have tj : IntKind.i64.wrap ((j : Int) + (n : Int)) = (j : Int) + (n : Int) := IntWalk.i64_in _ (by omega)
        have tj2 : ((j : Int) + (n : Int)).toNat = j + n := by omega
        have tj3 : (j : Int) + (n : Int) ≤ (s.size : Int) := by omega
        have tj4 : (j : Int) ≤ (j : Int) + (n : Int) := by omega
        have tk : IntKind.i64.wrap ((j : Int) + (K : Int)) = (j : Int) + (K : Int) := IntWalk.i64_in _ (by omega)
        have hxs : (s.extract j (j + n)).size = n := by rw [ByteArray.size_extract]; omega
        have HXl : Hid (dl (s.extract j (j + n)) = ((dl s).drop j).take K) := Lib.hid (by
          rw [dl_ext, List.drop_take]
          by_cases hm : K ≤ s.size - j
          · congr 1
            omega
          · rw [List.take_of_length_le (by rw [List.length_drop, dl_len]; omega), List.take_of_length_le (by rw [List.length_drop, dl_len]; omega)])
        have HEn : Hid (encP K (dl s) = dl T ++ (textN (n : Int) 16 ++ [13, 10] ++ dl (s.extract j (j + n)) ++ [13, 10] ++ encP K ((dl s).drop (j + K)))) := Lib.hid (by
          rw [HX.out, encP_drop hK0 (by rw [dl_len]; exact hlt), HXl.out, dl_len, hn])
        have HY := Lib.hid (size_text hn4)
        have HTx := Lib.hid (fun W => Nm.rtext_any (n : Int) 16 W)
        have z2 : (⟨#[13, 10]⟩ : ByteArray).size = 2 := rfl
        have hT3 : T.size ≤ 32000 := hT
        have hB := HB.out
        have hcase : (K : Int) ≤ (s.size : Int) - (j : Int) ∧ K = n ∨ ¬ (K : Int) ≤ (s.size : Int) - (j : Int) ∧ (s.size : Int) - (j : Int) = (n : Int) := by omega
        clear hn HX HXl
        rcases hcase with ⟨hm, hKn⟩ | ⟨hm, hm2⟩
        · subst hKn
          go_wp2_with fail
          go_region_held3 (fun w' => Below wr.heap.size wr w')
            (first | exact bon (by assumption) hbP | exact (Below.refl _ _).drew | assumption)
            (first
              | (go_at_call 23; refine (HTx.out _).mono ?_; rintro e wP ⟨y, rfl, hy, hbP⟩; have hys : y.size ≤ 3 := (by have h := HY.out.2.2; rw [← hy] at h; exact h); have hV1 : (T ++ y).size = T.size + y.size := ByteArray.size_append; have hV2 : (T ++ y ++ (⟨#[13, 10]⟩ : ByteArray)).size = T.size + y.size + 2 := (by rw [ByteArray.size_append, hV1, z2]); have hV3 : (T ++ y ++ (⟨#[13, 10]⟩ : ByteArray) ++ s.extract j (j + K)).size = T.size + y.size + 2 + K := (by rw [ByteArray.size_append, hV2, hxs]); have hV4 : (T ++ y ++ (⟨#[13, 10]⟩ : ByteArray) ++ s.extract j (j + K) ++ (⟨#[13, 10]⟩ : ByteArray)).size = T.size + y.size + 2 + K + 2 := (by rw [ByteArray.size_append, hV3, z2]); have k1 := fun W => run_string_add_sum (P := Tryd.prog) W T y (by omega); have k2 := fun W => run_string_add_sum (P := Tryd.prog) W (T ++ y) (⟨#[13, 10]⟩ : ByteArray) (by omega); have k3 := fun W => run_string_add_sum (P := Tryd.prog) W (T ++ y ++ (⟨#[13, 10]⟩ : ByteArray)) (s.extract j (j + K)) (by omega); have k4 := fun W => run_string_add_sum (P := Tryd.prog) W (T ++ y ++ (⟨#[13, 10]⟩ : ByteArray) ++ s.extract j (j + K)) (⟨#[13, 10]⟩ : ByteArray) (by omega))
              | fail)
          rename_i hHeld
          have HN : Hid (encP K (dl s) = dl (T ++ y ++ (⟨#[13, 10]⟩ : ByteArray) ++ s.extract j (j + K) ++ (⟨#[13, 10]⟩ : ByteArray)) ++ encP K ((dl s).drop (j + K))) := Lib.hid (by
            rw [HEn.out, dl_app, dl_app, dl_app, dl_app, show dl y = textN (K : Int) 16 from hy]
            simp
            rfl)
          have hT9 : (T ++ y ++ (⟨#[13, 10]⟩ : ByteArray) ++ s.extract j (j + K) ++ (⟨#[13, 10]⟩ : ByteArray)).size ≤ 32000 := by
            have h := congrArg List.length HN.out
            have h5 := HEL.out
            rw [List.length_append, dl_len] at h
            rw [dl_len] at h5
            omega
          clear k1 k2 k3 k4 HEn hy
          go_wp2
          go_roundw
          case rel => exact ⟨j + K, _, by go_num, rfl, by omega, hT9, HN, Lib.hid (bon hB hHeld)⟩
          case measure => simp [intOf]; omega
        · skip
          go_wp2_with fail
          go_region_held3 (fun w' => Below wr.heap.size wr w')
            (first | exact bon (by assumption) hbP | exact (Below.refl _ _).drew | assumption)
            (first
              | (go_at_call 23; refine (HTx.out _).mono ?_; rintro e wP ⟨y, rfl, hy, hbP⟩; have hys : y.size ≤ 3 := (by have h := HY.out.2.2; rw [← hy] at h; exact h); have hV1 : (T ++ y).size = T.size + y.size := ByteArray.size_append; have hV2 : (T ++ y ++ (⟨#[13, 10]⟩ : ByteArray)).size = T.size + y.size + 2 := (by rw [ByteArray.size_append, hV1, z2]); have hV3 : (T ++ y ++ (⟨#[13, 10]⟩ : ByteArray) ++ s.extract j (j + n)).size = T.size + y.size + 2 + n := (by rw [ByteArray.size_append, hV2, hxs]); have hV4 : (T ++ y ++ (⟨#[13, 10]⟩ : ByteArray) ++ s.extract j (j + n) ++ (⟨#[13, 10]⟩ : ByteArray)).size = T.size + y.size + 2 + n + 2 := (by rw [ByteArray.size_append, hV3, z2]); have k1 := fun W => run_string_add_sum (P := Tryd.prog) W T y (by omega); have k2 := fun W => run_string_add_sum (P := Tryd.prog) W (T ++ y) (⟨#[13, 10]⟩ : ByteArray) (by omega); have k3 := fun W => run_string_add_sum (P := Tryd.prog) W (T ++ y ++ (⟨#[13, 10]⟩ : ByteArray)) (s.extract j (j + n)) (by omega); have k4 := fun W => run_string_add_sum (P := Tryd.prog) W (T ++ y ++ (⟨#[13, 10]⟩ : ByteArray) ++ s.extract j (j + n)) (⟨#[13, 10]⟩ : ByteArray) (by omega))
              | fail)
          rename_i hHeld
          have HN : Hid (encP K (dl s) = dl (T ++ y ++ (⟨#[13, 10]⟩ : ByteArray) ++ s.extract j (j + n) ++ (⟨#[13, 10]⟩ : ByteArray)) ++ encP K ((dl s).drop (j + K))) := Lib.hid (by
            rw [HEn.out, dl_app, dl_app, dl_app, dl_app, show dl y = textN (n : Int) 16 from hy]
            simp
            rfl)
          have hT9 : (T ++ y ++ (⟨#[13, 10]⟩ : ByteArray) ++ s.extract j (j + n) ++ (⟨#[13, 10]⟩ : ByteArray)).size ≤ 32000 := by
            have h := congrArg List.length HN.out
            have h5 := HEL.out
            rw [List.length_append, dl_len] at h
            rw [dl_len] at h5
            omega
          clear k1 k2 k3 k4 HEn hy
          go_wp2
          go_roundw
          case rel => exact ⟨j + K, _, by go_num, rfl, by omega, hT9, HN, Lib.hid (bon hB hHeld)⟩
          case measure => simp [intOf]; omega
      · have hji : ¬ (j : Int) < (s.size : Int) := by omega
        have hsz : (T ++ (⟨#[48, 13, 10, 13, 10]⟩ : ByteArray)).size = T.size + 5 := by rw [ByteArray.size_append]; rfl
        have HV2 : Hid (Q = (dl (T ++ (⟨#[48, 13, 10, 13, 10]⟩ : ByteArray)), 0)) := Lib.hid (by
          rw [HV.out, encL, HX.out, List.drop_of_length_le (by rw [dl_len]; omega), enc_nil, List.append_nil, dl_app])
        go_wp2
        refine bodyPost_ret (v := .tuple #[.string (T ++ (⟨#[48, 13, 10, 13, 10]⟩ : ByteArray)), .int .i64 0]) (by simp [results, Tryd.results14, go_sem]) rfl ?_
        exact ⟨_, by rw [HV2.out], by rw [HV2.out], HB.out⟩
end Go.Proofs.YtaoajilgilbmmaaDoor
