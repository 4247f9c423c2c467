/-
  The walk of the law HeadBack.
-/
import Derived.Test.YteefjcllbnmegaaDoorLawE
namespace Go.Proofs.YteefjcllbnmegaaDoor
open Go.RowKit

abbrev endB : ByteArray := ⟨#[13, 10, 13, 10]⟩
theorem end_l : endB.toList = [13, 10, 13, 10] := by rw [Go.ByteArray.toList_eq]
/-- what is printed: its end, and what stands ahead of it -/
theorem text_cut {h : Hd} {a : Bool} {s : ByteArray} (hs : dl s = textH h a) : 4 ≤ s.size ∧ s.extract (s.size - 4) s.size = endB ∧ dl (s.extract 0 (s.size - 4)) = (textH h a).take ((textH h a).length - 4) := by
  have h4 := text_len h a
  have hl : s.size = (textH h a).length := by rw [← dl_len, hs]
  refine ⟨by omega, dl_inj ?_, ?_⟩
  · rw [dl_ext, List.take_of_length_le (by rw [dl_len]; exact Nat.le_refl _), hs, hl, text_eq, List.length_append]
    rw [List.drop_left' (by simp)]
  · rw [dl_ext, List.drop_zero, hs, hl]

set_option maxRecDepth 100000 in
set_option maxHeartbeats 2000000 in
theorem headBack_any (A : Option Addr) (L c : Nat) (ys : List UInt8) (a : Bool) (w : World) (hl : ys.length = L) (hm : L ≤ maxLen) (hU : Us w w.heap.size A ys) (hT : Tabs w) : Calls Tryd.prog 5 #[.slice A L c, .bool a] w (BoolEnds true w) := by
  have HU := Lib.hid hU
  have HL := Lib.hid hl
  clear hl hU
  go_enter Tryd.func5, Tryd.ntmps5
  go_wp2_with fail
  refine (awake_any _ hT).mono ?_
  rintro e w1 ⟨rfl, hb1⟩
  go_wp2_with fail
  refine (made_any A L c ys a _ HL.out hm (HU.out.up hb1)).mono ?_
  rintro e w2 ⟨m, t, st, r, mi, S, fs, rfl, hG, hF, hb2⟩
  obtain ⟨zm, zt, zr, zn, zf⟩ := good_few hG
  have hlen := good_len hG
  have hright := hG.1
  have hn := hF.len
  have b2 := bon (bon hb1 hb2) (ba1 w2 (.cells #[.string m, .string t, .int .i64 st, .string r, .int .i64 mi, .slice S.A S.n S.c] 26))
  have HF2 := Lib.hid (hF.up (ba1 w2 (.cells #[.string m, .string t, .int .i64 st, .string r, .int .i64 mi, .slice S.A S.n S.c] 26)))
  have bx := Box.new w2 26 #[.string m, .string t, .int .i64 st, .string r, .int .i64 mi, .slice S.A S.n S.c]
  have HP := Lib.hid (print_any m t st r mi S.A S.n S.c fs a _ zm zt zr HF2.out (by omega) zf (hT.up b2))
  have HPO := Lib.hid (print_ok hright hlen)
  rw [HPO.out] at HP
  have HBK := Lib.hid (back_H hright hlen)
  have HLn := Lib.hid hlen
  clear hG hF hb1 hb2 hlen hright hn zm zt zr zn zf HPO
  go_wp2_with fail
  refine HP.out.mono ?_
  rintro e w3 ⟨s, rfl, hs, hb3⟩
  simp only at hs
  obtain ⟨h4, hend, htk⟩ := text_cut hs
  have HPa : Hid (parseH (dl (s.extract 0 (s.size - 4))) a = (hdOf m t st r mi fs, 0)) := Lib.hid (by rw [htk]; exact HBK.out)
  have hsz : s.size ≤ 2004 := by rw [← dl_len, hs]; exact HLn.out
  have bx3 := bx.up hb3
  have b3 := bon b2 hb3
  have HF3 := Lib.hid (HF2.out.up hb3)
  obtain ⟨g, hg⟩ : ∃ g, w2.heap.size = g := ⟨_, rfl⟩
  rw [hg] at bx3 ⊢
  clear hg bx b2 HF2 HBK hb3 htk hs HP
  have hli : ¬ (s.size : Int) < 4 := by omega
  have hs1 : ((s.size : Int) - 4).toNat = s.size - 4 := by omega
  have hs2 : (0 : Int) ≤ (s.size : Int) - 4 := by omega
  have hs3 : (s.size : Int) - 4 ≤ (s.size : Int) := by omega
  have hrs : ((s.extract (s.size - 4) s.size).toList == [13, 10, 13, 10]) = true := by rw [hend, end_l]; rfl
  have HPP := Lib.hid (hparse_any (s.extract 0 (s.size - 4)) a w3 (by rw [ByteArray.size_extract]; omega) (hT.up b3).mx)
  rw [HPa.out] at HPP
  clear hend HPa
  go_wp2_with fail
  refine HPP.out.mono ?_
  rintro e w4 ⟨m2, t2, st2, r2, mi2, S2, fs2, rfl, hh, hF4, hb4⟩
  obtain ⟨rfl, rfl, rfl, rfl, rfl, rfl⟩ := hdOf_inj hh
  clear hh
  have b4 := bon hb4 (ba1 w4 (.cells #[.string m2, .string t2, .int .i64 st2, .string r2, .int .i64 mi2, .slice S2.A S2.n S2.c] 26))
  have bx4 := bx3.up b4
  have by4 := Box.new w4 26 #[.string m2, .string t2, .int .i64 st2, .string r2, .int .i64 mi2, .slice S2.A S2.n S2.c]
  have HC4 := Lib.hid (heads_same m2 t2 st2 r2 mi2 S2 S fs2 _ (hF4.up (ba1 w4 (.cells #[.string m2, .string t2, .int .i64 st2, .string r2, .int .i64 mi2, .slice S2.A S2.n S2.c] 26))) (HF3.out.up b4))
  obtain ⟨p0, p1, p2, p3, p4, p5⟩ := bx4.six
  obtain ⟨q0, q1, q2, q3, q4, q5⟩ := by4.six
  have hfin := bon b3 b4
  clear bx3 bx4 by4 hF4 hb4 b4 HF3
  go_wp2_with fail
  refine HC4.out.mono ?_
  rintro e w5 ⟨rfl, hb5⟩
  go_wp2
  go_ret
  exact ⟨by rfl, bon hfin hb5⟩

end Go.Proofs.YteefjcllbnmegaaDoor
