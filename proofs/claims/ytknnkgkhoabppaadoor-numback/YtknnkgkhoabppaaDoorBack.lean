/-
  The walk of the law NumBack.
-/
import Derived.Test.YtknnkgkhoabppaaDoorSums
import Derived.Test.YtknnkgkhoabppaaDoorTexts
namespace Go.Proofs.YtknnkgkhoabppaaDoor
open Go.RowKit

/-- the text with noughts ahead -/
def noughtsN (k : Nat) (s : ByteArray) : ByteArray := ⟨(List.replicate k 48 ++ s.data.toList).toArray⟩
theorem noughts_zero (s : ByteArray) : noughtsN 0 s = s := by
  apply Go.WideShapes.bytes_inj
  simp [noughtsN]
theorem noughts_succ (k : Nat) (s : ByteArray) : (⟨#[48]⟩ : ByteArray) ++ noughtsN k s = noughtsN (k + 1) s := by
  apply Go.WideShapes.bytes_inj
  rw [app_data]
  simp [noughtsN, List.replicate_succ]
theorem noughts_size (k : Nat) (s : ByteArray) : (noughtsN k s).size = k + s.size := by
  show (List.replicate k 48 ++ s.data.toList).toArray.size = _
  simp

set_option maxRecDepth 100000 in
set_option maxHeartbeats 4000000 in
theorem back_at (n : Int) (N R : Nat) (hN : N < 256) (base : Bool) (k : Int) (m : Nat) (s : ByteArray) (t : ByteArray) (w : World) (ht : Tabs w)
    (hR : R < 30) (r1 : (N : Int).tmod 30 = (R : Int)) (r2 : (N : Int) % 30 = (R : Int))
    (hk : (base = false ∧ k = 10) ∨ (base = true ∧ k = 16)) (hm : bits BinOp.and IntKind.i64 n 9007199254740991 = (m : Int)) (hs : s.size ≤ 100)
    (H1 : Hid (∀ W, Tabs W → Calls Tryd.prog 16 #[.int .i64 (m : Int), .int .i64 k] W fun e w' => e = .returned (.string s) ∧ Below W.heap.size W w'))
    (H2 : Hid (∀ j W, j ≤ 30 → Calls Tryd.prog 14 #[.string (noughtsN j s), .int .i64 k] W (TwoEnds ((m : Int), 0) W)))
    (H3 : Hid (∀ W, Tabs W → Calls Tryd.prog 16 #[.int .i64 n, .int .i64 k] W fun e w' => e = .returned (.string t) ∧ Below W.heap.size W w'))
    (H4 : (n < 0 ∧ t.toList.isEmpty = true) ∨ (¬ n < 0 ∧ 9007199254740992 < n ∧ t.toList.isEmpty = true) ∨ (¬ n < 0 ∧ ¬ 9007199254740992 < n ∧ t.toList.isEmpty = false)) :
    Calls Tryd.prog 5 #[.int .i64 n, .int .u8 (N : Int), .bool base] w (BoolEnds true w) := by
  have H5 : Hid (∀ W, Calls Tryd.prog 14 #[.string s, .int .i64 k] W (TwoEnds ((m : Int), 0) W)) := Lib.hid (fun W => by have := H2.out 0 W (by omega); rwa [noughts_zero] at this)
  have H4' := Lib.hid H4
  clear H4
  rcases hk with ⟨rfl, rfl⟩ | ⟨rfl, rfl⟩
  all_goals
    go_enter Tryd.func5, Tryd.ntmps5
    go_wp2_with fail
    refine (awake_any _ ht).mono ?_
    rintro e w1 ⟨rfl, hb1⟩
    go_wp2_with fail
    refine (H1.out _ (ht.up hb1)).mono ?_
    rintro e w2 ⟨rfl, hb2⟩
    go_wp2_with fail
    refine (H5.out _).mono ?_
    rintro e w3 ⟨rfl, hb3⟩
    have hb13 := bon' (bon' hb1 hb2) hb3
    go_wp2_with fail
    go_loopw [13, 10] (fun vi vs wr => ∃ (j : Nat) (x : ByteArray), j ≤ R ∧ vi = .int .i64 (j : Int) ∧ vs = .string x ∧ x.size ≤ 100 + j ∧ Hid (x = noughtsN j s) ∧ w3 = wr) (fun vi _ _ => 30 - (intOf vi).toNat)
    case atStart => exact ⟨0, s, Nat.zero_le _, rfl, rfl, by omega, Lib.hid (noughts_zero s).symm, rfl⟩
    case round =>
      obtain ⟨j, x, hj, rfl, rfl, hxs, HX, rfl⟩ := hrel
      by_cases hlt : j < R
      · go_wp2
        refine ⟨⟨j + 1, _, by omega, by go_num, rfl, ?_, Lib.hid (by rw [HX.out]; exact noughts_succ j s), trivial⟩, by simp [intOf]; omega⟩
        rw [ByteArray.size_append]
        show 1 + x.size ≤ _
        omega
      · have : j = R := by omega
        subst this
        have H6 : Hid (∀ W, Calls Tryd.prog 14 #[.string x, .int .i64 _] W (TwoEnds ((m : Int), 0) W)) := Lib.hid (fun W => by rw [HX.out]; exact H2.out _ W (by omega))
        go_wp2_with fail
        refine (H6.out _).mono ?_
        rintro e w4 ⟨rfl, hb4⟩
        have hb14 := bon' hb13 hb4
        rcases H4'.out with ⟨n1, n2⟩ | ⟨n1, n2, n3⟩ | ⟨n1, n2, n3⟩
        all_goals
          go_wp2_with fail
          refine (H3.out _ (ht.up hb14)).mono ?_
          rintro e w5 ⟨rfl, hb5⟩
          go_wp2
          go_ret
          refine ⟨?_, bon' hb14 hb5⟩
          first
          | rfl
          | exact ret_bool (a := !decide (n < 0) && !decide (9007199254740992 < n)) (by rw [decide_eq_false (by omega), decide_eq_false (by omega)]; rfl)

theorem dgs_short (b : Nat) (hb : 2 ≤ b) : ∀ (k n : Nat), n < b ^ (k + 1) → (dgs b n).length ≤ k + 1
  | 0, n, h => by rw [dgs_small (by simpa using h)]; simp
  | k + 1, n, h => by
    by_cases hn : n < b
    · rw [dgs_small hn]; simp
    · have := dgs_short b hb k (n / b) (by rw [Nat.div_lt_iff_lt_mul (by omega), ← Nat.pow_succ]; exact h)
      rw [dgs_big hb (by omega)]
      simp
      omega

theorem back_any (n : Int) (N : Nat) (hN : N < 256) (base : Bool) (w : World) (ht : Tabs w) : Calls Tryd.prog 5 #[.int .i64 n, .int .u8 (N : Int), .bool base] w (BoolEnds true w) := by
  obtain ⟨m, hm, hm1⟩ := masked n
  obtain ⟨k, hk⟩ : ∃ k : Int, (base = false ∧ k = 10) ∨ (base = true ∧ k = 16) := by
    cases base
    · exact ⟨10, .inl ⟨rfl, rfl⟩⟩
    · exact ⟨16, .inr ⟨rfl, rfl⟩⟩
  have hk2 : k = 10 ∨ k = 16 := by omega
  have htx : textN (m : Int) k = dgs k.toNat m := by
    rw [textN, if_pos ⟨fit_iff.2 (by omega), hk2⟩]
    simp
  have hne : textN (m : Int) k ≠ [] := by rw [htx]; exact dgs_ne _ _
  have hsz : (strN (m : Int) k).size ≤ 100 := by
    show (textN (m : Int) k).toArray.size ≤ 100
    rw [htx]
    have : (dgs k.toNat m).length ≤ 15 + 1 := dgs_short _ (by omega) 15 m (by
      refine Nat.lt_of_le_of_lt hm1 (Nat.lt_of_lt_of_le ?_ (Nat.pow_le_pow_left (show 10 ≤ k.toNat by omega) _))
      decide)
    simp
    omega
  refine back_at n N (N % 30) hN base k m (strN (m : Int) k) (strN n k) w ht (Nat.mod_lt _ (by omega)) ?_ ?_ hk hm hsz (Lib.hid fun W hW => text_str _ _ W hW) (Lib.hid fun j W hj => ?_) (Lib.hid fun W hW => text_str _ _ W hW) ?_
  · rw [Int.tmod_eq_emod_of_nonneg (by omega)]
    omega
  · omega
  · refine parse_at _ _ W ?_ ?_
    · rw [noughts_size]
      unfold maxLen
      omega
    · show parseN (List.replicate j 48 ++ textN (m : Int) k) k = _
      rw [parse_noughts hk2 hne, parse_text hk2 (by omega) (by omega)]
  · have he : (strN n k).toList.isEmpty = (textN n k).isEmpty := by rw [Go.ByteArray.toList_eq]; rfl
    rw [he]
    by_cases hf : 0 ≤ n ∧ n ≤ 9007199254740992
    · refine .inr (.inr ⟨by omega, by omega, ?_⟩)
      cases hx : textN n k with
      | nil => exact absurd hf ((text_nil hk2).1 hx)
      | cons a r => rfl
    · rw [(text_nil hk2).2 hf]
      by_cases hn : n < 0
      · exact .inl ⟨hn, rfl⟩
      · exact .inr (.inl ⟨hn, by omega, rfl⟩)

end Go.Proofs.YtknnkgkhoabppaaDoor
