/-
  The walk of the law WheelMade.
-/
import Derived.Test.YtncbfkoldllbpaaMade
namespace Go.Proofs.Ytncbfkoldllbpaa
open Go.RowKit

set_option maxRecDepth 100000 in
set_option maxHeartbeats 4000000 in
theorem madeL_any (P : P4) (A : Option Addr) (n c : Nat) (ys : List UInt8) (a b : Nat) (ha : a < 256) (hb : b < 256) (w : World) (hl : ys.length = n) (hmx : n ≤ maxLen) (hu : Us w A ys) : Calls Try.prog 4 #[.slice A n c, .int .u8 (a : Int), .int .u8 (b : Int)] w (BoolEnds true w) := by
  have HM := Lib.hid (made_any A n c ys w hl hmx hu)
  have HA := Lib.hid (awake_any P)
  have HT := Lib.hid (told_any P)
  clear P hl hu hmx
  obtain ⟨p, hp⟩ : ∃ p, a % 10 = p := ⟨_, rfl⟩
  obtain ⟨q, hq⟩ : ∃ q, b % 20 = q := ⟨_, rfl⟩
  have z1 : (a : Int).tmod 10 = (p : Int) := by rw [Int.tmod_eq_emod_of_nonneg (by omega)]; omega
  have z2 : (a : Int) % 10 = (p : Int) := by omega
  have z3 : (b : Int).tmod 20 = (q : Int) := by rw [Int.tmod_eq_emod_of_nonneg (by omega)]; omega
  have z4 : (b : Int) % 20 = (q : Int) := by omega
  have hp10 : p < 10 := by omega
  have hq20 : q < 20 := by omega
  clear hp hq
  go_enter Try.func4, Try.ntmps4
  go_wp2_with fail
  refine HM.out.mono ?_
  rintro e w1 ⟨W, S, rfl, hO, hok, hwf, h60, hb1⟩
  have g1 := Box.new w1 25 (wcs W.now S)
  have hat := hO.at.up (ba1 w1 (.cells (wcs W.now S) 25))
  have hbb := bon hb1 (ba1 w1 (.cells (wcs W.now S) 25))
  have hlo := hok.lo
  have hfew := hok.few
  have HT2 : Hid (∀ X, Below (w1.alloc (.cells (wcs W.now S) 25)).heap.size (w1.alloc (.cells (wcs W.now S) 25)) X → Calls Try.prog 9 #[wv W.now S, .int .i64 ((p : Int) - 1), .int .i64 (W.now + q - 2)] X (BoolEnds true X)) := Lib.hid (fun X hX => HT.out W S ((p : Int) - 1) (W.now + q - 2) X (hat.up hX) hwf (by omega) ⟨by omega, by omega⟩ ⟨by omega, by omega⟩)
  clear hat hwf hok hO hfew HM HT
  generalize W.now = now at *
  unfold wv at HT2 ⊢
  go_wp2_with fail
  refine (HA.out _).mono ?_
  rintro e w2 ⟨rfl, hb2⟩
  obtain ⟨c0, c1, c2, c3, c4, c5, c6, c7, c8⟩ := (g1.up hb2).nine
  go_wp2_with fail
  refine (HT2.out _ hb2).mono ?_
  rintro e w3 ⟨rfl, hb3⟩
  go_wp2
  go_ret
  exact ⟨rfl, bon (bon hbb hb2) hb3⟩

end Go.Proofs.Ytncbfkoldllbpaa
