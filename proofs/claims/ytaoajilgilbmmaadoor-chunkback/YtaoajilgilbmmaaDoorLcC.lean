/-
  The walk of the law ChunkBack.
-/
import Derived.Test.YtaoajilgilbmmaaDoorLcA
namespace Go.Proofs.YtaoajilgilbmmaaDoor
open Go.RowKit

set_option maxRecDepth 100000 in
set_option maxHeartbeats 2000000 in
theorem back_tail (s : ByteArray) (hs : s.size ≤ 300) (K : Nat) (hK0 : 0 < K) (hK : K ≤ 4000) : encC (dl s) (K : Int) = (encL K (dl s), 0) ∧ (encL K (dl s)).length ≤ 2405 := by
  refine ⟨?_, ?_⟩
  · unfold encC
    rw [if_neg (by rw [dl_len]; omega)]
    rfl
  · have := enc_len K (dl s).length (dl s) (Nat.le_refl _) (by rw [dl_len]; omega)
    rw [dl_len] at this
    rw [encL, List.length_append]
    simp only [List.length_cons, List.length_nil]
    omega

set_option maxRecDepth 100000 in
set_option maxHeartbeats 4000000 in
theorem chunkBack_any (s : ByteArray) (N : Nat) (more : ByteArray) (hs : s.size ≤ 4611686018427387904) (hN : N < 65536) (hm : more.size ≤ 140737488351232) (w : World) (hT : Tabs w) : Calls Tryd.prog 8 #[.string s, .int .u16 (N : Int), .string more] w (BoolEnds true w) := by
  have HTb := Lib.hid hT
  clear hT
  obtain ⟨r, hr⟩ : ∃ r, N % 4000 = r := ⟨_, rfl⟩
  have hr4 : r < 4000 := by omega
  have t1 : IntKind.i64.wrap (N : Int) = (N : Int) := IntWalk.i64_in _ (by omega)
  have t2 : (N : Int).tmod 4000 = (r : Int) := by rw [Int.tmod_eq_emod_of_nonneg (by omega), ← hr]; simp
  have t3 : (N : Int) % 4000 = (r : Int) := by rw [← hr]; simp
  have t4 : IntKind.i64.wrap (1 + (r : Int)) = 1 + (r : Int) := IntWalk.i64_in _ (by omega)
  clear hr
  have HT : Hid (∀ X : ByteArray, X.size ≤ 300 → ∀ W, Tabs W → Calls Tryd.prog 13 #[.string X, .int .i64 (1 + (r : Int))] W fun e w' => ∃ t : ByteArray, e = .returned (.tuple #[.string t, .int .i64 0]) ∧ t.size ≤ 2405 ∧ feedC ⟨0, 0, [], 0⟩ (dl (t ++ more)) = (⟨4, 0, [], (X.size : Int)⟩, t.size, dl X, 0) ∧ Below W.heap.size W w') := Lib.hid (fun X hX W hW => by
    have e1 : (1 : Int) + (r : Int) = ((r + 1 : Nat) : Int) := by omega
    rw [e1]
    obtain ⟨b1, b2⟩ := back_tail X hX (r + 1) (by omega) (by omega)
    refine (cencode_any X ((r + 1 : Nat) : Int) (by omega) W hW).mono ?_
    rintro e w' ⟨t, rfl, ht, hb⟩
    rw [b1] at ht ⊢
    simp only at ht ⊢
    have hf := feed_back (r + 1) (by omega) (dl X) (dl more) (by rw [dl_len]; omega)
    rw [← ht, dl_len, dl_len, ← dl_app] at hf
    refine ⟨t, rfl, by rw [← dl_len, ht]; exact b2, hf, hb⟩)
  have HF : Hid (∀ (X t : ByteArray), t.size ≤ 2405 → feedC ⟨0, 0, [], 0⟩ (dl (t ++ more)) = (⟨4, 0, [], (X.size : Int)⟩, t.size, dl X, 0) → ∀ W, Calls Tryd.prog 15 #[.agg #[.int .i64 0, .int .i64 0, .string ⟨#[]⟩, .int .i64 0], .string (t ++ more)] W fun e w' => e = .returned (.tuple #[.agg #[.int .i64 4, .int .i64 0, .string ⟨#[]⟩, .int .i64 (X.size : Int)], .int .i64 (t.size : Int), .string X, .int .i64 0]) ∧ Below W.heap.size W w') := Lib.hid (fun X t ht hq W => by
    refine (cfeed_any 0 0 ⟨#[]⟩ 0 (t ++ more) (by rw [ByteArray.size_append]; omega) W).mono ?_
    rintro e w' ⟨n1, B, rfl, h1, h2, hb⟩
    rw [show ckOf 0 0 ⟨#[]⟩ 0 = ⟨0, 0, [], 0⟩ from rfl, hq] at h1 h2 ⊢
    obtain rfl : n1 = ⟨#[]⟩ := dl_inj h1
    obtain rfl : B = X := dl_inj h2
    exact ⟨rfl, hb⟩)
  have hcase : (300 < s.size) ∨ (¬ 300 < s.size) := by omega
  go_enter Tryd.func8, Tryd.ntmps8
  go_wp2_with fail
  refine (cawake_any _ HTb.out).mono ?_
  rintro e w1 ⟨rfl, hb1⟩
  rcases hcase with h1 | h1
  · have hx3 : (s.extract 0 300).size = 300 := by rw [ByteArray.size_extract]; omega
    have h3i : (300 : Int) ≤ (s.size : Int) := by omega
    go_wp2_with fail
    obtain ⟨X, hX⟩ : ∃ X, s.extract 0 300 = X := ⟨_, rfl⟩
    rw [hX] at hx3 ⊢
    have hx4 : X.size ≤ 300 := by omega
    clear hX hx3
    refine (HT.out X (by omega) _ (HTb.out.up hb1)).mono ?_
    rintro e w2 ⟨t, rfl, ht, hq, hb2⟩
    have HQ := Lib.hid (HF.out X t ht hq)
    have hsz : (t ++ more).size = t.size + more.size := ByteArray.size_append
    have hB2 := bon hb1 hb2
    clear hq hb1 hb2
    go_wp2_with fail
    refine (HQ.out _).mono ?_
    rintro e w3 ⟨rfl, hb3⟩
    go_upto_region 8 with fail
    have hB3 := bon hB2 (bon hb3 (ba1 w3 (.cells #[.int .i64 4, .int .i64 0, .string ⟨#[]⟩, .int .i64 (X.size : Int)] 23)))
    obtain ⟨c0, c1, c2, c3⟩ := (Box.new w3 23 #[.int .i64 4, .int .i64 0, .string ⟨#[]⟩, .int .i64 (X.size : Int)]).four
    obtain ⟨g, hg⟩ : ∃ g, w3.heap.size = g := ⟨_, rfl⟩
    rw [hg] at c0 c1 c2 c3 ⊢
    clear hg
    generalize w3.alloc (.cells #[.int .i64 4, .int .i64 0, .string ⟨#[]⟩, .int .i64 (X.size : Int)] 23) = W3 at *
    go_wp2
    go_ret
    exact ⟨by first | rfl | simp, hB3⟩
  · go_wp2_with fail
    refine (HT.out s (by omega) _ (HTb.out.up hb1)).mono ?_
    rintro e w2 ⟨t, rfl, ht, hq, hb2⟩
    have HQ := Lib.hid (HF.out s t ht hq)
    have hsz : (t ++ more).size = t.size + more.size := ByteArray.size_append
    have hB2 := bon hb1 hb2
    clear hq hb1 hb2
    go_wp2_with fail
    refine (HQ.out _).mono ?_
    rintro e w3 ⟨rfl, hb3⟩
    go_upto_region 8 with fail
    have hB3 := bon hB2 (bon hb3 (ba1 w3 (.cells #[.int .i64 4, .int .i64 0, .string ⟨#[]⟩, .int .i64 (s.size : Int)] 23)))
    obtain ⟨c0, c1, c2, c3⟩ := (Box.new w3 23 #[.int .i64 4, .int .i64 0, .string ⟨#[]⟩, .int .i64 (s.size : Int)]).four
    obtain ⟨g, hg⟩ : ∃ g, w3.heap.size = g := ⟨_, rfl⟩
    rw [hg] at c0 c1 c2 c3 ⊢
    clear hg
    generalize w3.alloc (.cells #[.int .i64 4, .int .i64 0, .string ⟨#[]⟩, .int .i64 (s.size : Int)] 23) = W3 at *
    go_wp2
    go_ret
    exact ⟨by first | rfl | simp, hB3⟩
end Go.Proofs.YtaoajilgilbmmaaDoor
