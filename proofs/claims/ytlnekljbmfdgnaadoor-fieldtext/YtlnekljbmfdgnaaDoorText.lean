/-
  The walk of the law FieldText.
-/
import Derived.Test.YtlnekljbmfdgnaaDoorAwake
namespace Go.Proofs.YtlnekljbmfdgnaaDoor
open Go.RowKit

set_option maxRecDepth 100000 in
set_option maxHeartbeats 2000000 in
theorem text_any (s t : ByteArray) (w : World) (hs : s.size ≤ 281474976710656) (ht : t.size ≤ 281474976710656) : Calls Tryd.prog 3 #[.string s, .string t] w (BoolEnds true w) := by
  have t1 : IntKind.i64.wrap ((s.size : Int) + (t.size : Int)) = (s.size : Int) + (t.size : Int) := IntWalk.i64_in _ (by omega)
  by_cases hbig : 400 < s.size + t.size
  · go_enter Tryd.func3, Tryd.ntmps3
    go_wp2_with fail
    refine (awake_any _).mono ?_
    rintro e w1 ⟨rfl, hb1⟩
    have hd : (400 : Int) < (s.size : Int) + (t.size : Int) := by omega
    go_wp2
    go_ret
    exact ⟨by rfl, hb1⟩
  · have H1 := Lib.hid (fun W => same_any s (by omega) W)
    have H2 := Lib.hid (fun W => same_any t (by omega) W)
    have hx1 : (⟨#[58]⟩ : ByteArray).size = 1 := rfl
    have hx2 : (⟨#[44]⟩ : ByteArray).size = 1 := rfl
    have z1 : (s ++ (⟨#[58]⟩ : ByteArray)).size = s.size + 1 := by rw [ByteArray.size_append, hx1]
    have z2 : (s ++ (⟨#[44]⟩ : ByteArray)).size = s.size + 1 := by rw [ByteArray.size_append, hx2]
    have z3 : (s ++ (⟨#[58]⟩ : ByteArray) ++ t).size = s.size + 1 + t.size := by rw [ByteArray.size_append, z1]
    have z4 : (s ++ (⟨#[44]⟩ : ByteArray) ++ t).size = s.size + 1 + t.size := by rw [ByteArray.size_append, z2]
    have H3 := Lib.hid (fun W => same_any (s ++ (⟨#[58]⟩ : ByteArray) ++ t) (by omega) W)
    have H4 := Lib.hid (fun W => same_any (s ++ (⟨#[44]⟩ : ByteArray) ++ t) (by omega) W)
    go_enter Tryd.func3, Tryd.ntmps3
    go_wp2_with fail
    refine (awake_any _).mono ?_
    rintro e w1 ⟨rfl, hb1⟩
    go_wp2_with fail
    refine (H1.out _).mono ?_
    rintro e w2 ⟨rfl, hb2⟩
    go_wp2_with fail
    refine (H2.out _).mono ?_
    rintro e w3 ⟨rfl, hb3⟩
    go_wp2_with fail
    refine (H3.out _).mono ?_
    rintro e w4 ⟨rfl, hb4⟩
    go_wp2_with fail
    refine (H4.out _).mono ?_
    rintro e w5 ⟨rfl, hb5⟩
    go_wp2
    go_ret
    exact ⟨by rfl, bon (bon (bon (bon hb1 hb2) hb3) hb4) hb5⟩

end Go.Proofs.YtlnekljbmfdgnaaDoor
