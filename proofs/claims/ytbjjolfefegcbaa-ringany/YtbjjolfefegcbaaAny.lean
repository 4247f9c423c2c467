/-
  The walk of the law RingAny.
-/
import Derived.Test.YtbjjolfefegcbaaTold
namespace Go.Proofs.Ytbjjolfefegcbaa
open Go.RowKit

/-- New and the document's own New come to the same -/
theorem new_same (room : Int) (w : World) : ∃ (n : Nat) (xs : List UInt8), xs.length = n ∧
    Calls Try.prog 9 #[.int .i64 room] w (fun e w' => ∃ A c, e = .returned (.agg #[.slice A n c, .int .i64 0, .int .i64 0]) ∧ Bs w' w'.heap.size A xs ∧ Below w.heap.size w w') ∧
    ∀ w, Calls Try.prog 10 #[.int .i64 room] w (fun e w' => ∃ A c, e = .returned (.agg #[.slice A n c, .int .i64 0, .int .i64 0]) ∧ Bs w' w'.heap.size A xs ∧ Below w.heap.size w w') := by
  cases h : okRoom room with
  | false =>
    refine ⟨0, [], rfl, ?_, fun w => ?_⟩
    · exact (new_no room w h).mono fun e w' ⟨he, hb⟩ => ⟨none, 0, he, Bs.nil _ _ _, hb⟩
    · exact (rnew_no room w h).mono fun e w' ⟨he, hb⟩ => ⟨none, 0, he, Bs.nil _ _ _, hb⟩
  | true =>
    have h' : 1 ≤ room ∧ room ≤ 4096 := by simpa [okRoom] using h
    obtain ⟨r, rfl⟩ := Int.eq_ofNat_of_zero_le (show 0 ≤ room by omega)
    refine ⟨r, List.replicate r 0, by simp, ?_, fun w => ?_⟩
    · exact (new_yes r w (by omega) (by omega)).mono fun e w' ⟨he, hb, hB⟩ => ⟨_, r, he, hB, hb⟩
    · exact (rnew_yes r w (by omega) (by omega)).mono fun e w' ⟨he, hb, hB⟩ => ⟨_, r, he, hB, hb⟩

set_option maxRecDepth 100000 in
set_option maxHeartbeats 1000000 in
theorem any_any (A : Option Addr) (c n : Nat) (f m k room : Int) (xs : List UInt8) (s : ByteArray) (w : World) (HX : Hid (xs.length = n)) (HA : Hid (A = none → c = 0)) (hc : n ≤ c) (hn : n ≤ maxLen) (hs : s.size ≤ maxLen) (hB : Bs w w.heap.size A xs) (hM : Mx w) :
    Calls Try.prog 3 #[.agg #[.slice A n c, .int .i64 f, .int .i64 m], .string s, .int .i64 k, .int .i64 room] w fun e w' => e = .returned (.bool true) ∧ Below w.heap.size w w' := by
  have hM1 := fun o => hM.up (ba1 w o)
  have HM := Lib.hid hM1
  clear hM1
  unfold maxLen at hn hs
  by_cases h1 : 200 < n
  · go_enter Try.func3, Try.ntmps3
    go_wp2_with fail
    refine (awake_any _ (HM.out _)).mono ?_
    rintro e w1 ⟨rfl, hb1⟩
    go_wp2
    go_ret
    exact ⟨rfl, bon (ba1 _ _) hb1⟩
  by_cases h2 : 200 < s.size
  · go_enter Try.func3, Try.ntmps3
    go_wp2_with fail
    refine (awake_any _ (HM.out _)).mono ?_
    rintro e w1 ⟨rfl, hb1⟩
    go_wp2
    go_ret
    exact ⟨rfl, bon (ba1 _ _) hb1⟩
  go_enter Try.func3, Try.ntmps3
  go_wp2_with fail
  refine (awake_any _ (HM.out _)).mono ?_
  rintro e w1 ⟨rfl, hb1⟩
  have b1 := (Box.new w 24 #[.slice A n c, .int .i64 f, .int .i64 m]).up hb1
  have hw1 := bon (ba1 w _) hb1
  obtain ⟨⟨c0, c1, c2⟩, _⟩ := b1.three
  go_wp2_with fail
  refine (told_any A c n f m k xs s _ HX HA (by omega) hc (by omega) (hB.up hw1) (hM.up hw1)).mono ?_
  rintro e w2 ⟨rfl, hb2⟩
  have hw2 := bon hw1 hb2
  clear c0 c1 c2 b1 hb1 hb2
  by_cases h3 : 300 < room
  · by_cases h4 : room ≤ 4096
    · go_wp2
      go_ret
      exact ⟨rfl, hw2⟩
    · obtain ⟨n', xs', hx', N1, N2⟩ := new_same room w2
      have HX' := Lib.hid hx'
      have H1 := Lib.hid N1
      have H2 := Lib.hid N2
      clear hx' N1 N2
      go_wp2_with fail
      refine H1.out.mono ?_
      rintro e w3 ⟨A3, c3, rfl, hB3, hb3⟩
      go_wp2_with fail
      refine (H2.out _).mono ?_
      rintro e w4 ⟨A4, c4, rfl, hB4, hb4⟩
      go_wp2_with fail
      refine (same_any A3 A4 n' c3 c4 0 0 xs' _ HX' (hB3.up hb4) hB4).mono ?_
      rintro e w5 ⟨rfl, hb5⟩
      go_wp2
      go_ret
      exact ⟨rfl, bon (bon (bon hw2 hb3) hb4) hb5⟩
  · obtain ⟨n', xs', hx', N1, N2⟩ := new_same room w2
    have HX' := Lib.hid hx'
    have H1 := Lib.hid N1
    have H2 := Lib.hid N2
    clear hx' N1 N2
    go_wp2_with fail
    refine H1.out.mono ?_
    rintro e w3 ⟨A3, c3, rfl, hB3, hb3⟩
    go_wp2_with fail
    refine (H2.out _).mono ?_
    rintro e w4 ⟨A4, c4, rfl, hB4, hb4⟩
    go_wp2_with fail
    refine (same_any A3 A4 n' c3 c4 0 0 xs' _ HX' (hB3.up hb4) hB4).mono ?_
    rintro e w5 ⟨rfl, hb5⟩
    go_wp2
    go_ret
    exact ⟨rfl, bon (bon (bon hw2 hb3) hb4) hb5⟩

end Go.Proofs.Ytbjjolfefegcbaa
