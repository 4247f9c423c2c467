/-
  The walks of ids.Right and ids.Has.
-/
import Derived.Test.YtkglgbbekmljcaaRight
namespace Go.Proofs.Ytkglgbbekmljcaa
open Go.RowKit Go.Maps

section
variable {Ag Ab Af : Option Addr} {N cg M cb F cf : Nat} {T : Tb} {w : World}

set_option maxHeartbeats 1000000 in
theorem right_any (h : At w T Ag N cg Ab M cb Af F cf) :
    Calls Try.prog 16 #[tv Ag N cg Ab M cb Af F cf] w fun e w' => e = .returned (.bool (okT T)) ∧ Below w.heap.size w w' := by
  have HH := Lib.hid h
  have he : okT T = (sizedT T && T.gens.all inG && T.free.isPerm (nb T.busy N)) := by simp only [okT, h.lg]
  clear h
  have HE := Lib.hid he
  clear he
  unfold tv
  go_enter Try.func16, Try.ntmps16
  go_wp2_with fail
  refine (sized_any (HH.out.up (ba2 _ _ _))).mono ?_
  rintro e w1 ⟨rfl, hb1⟩
  have b1 := (Box.mk' (w.alloc (.cells #[.slice Ag N cg, .slice Ab M cb, .slice Af F cf] 25)) 47 #[.slice Ag N cg, .slice Ab M cb, .slice Af F cf] (w.heap.size + 1) (by simp)).up hb1
  have hw1 := bon (ba2 w _ _) hb1
  clear hb1
  obtain ⟨⟨c0, c1, c2⟩, _⟩ := b1.three
  cases hs : sizedT T with
  | false =>
    have HS := Lib.hid hs
    clear hs
    go_wp2_with fail
    go_ret
    exact ⟨ret_bool (by rw [HE.out, HS.out]; rfl), hw1⟩
  | true =>
    have HS := Lib.hid hs
    clear hs
    go_wp2_with fail
    refine (gens_any (HH.out.up hw1)).mono ?_
    rintro e w2 ⟨rfl, hb2⟩
    have b2 := b1.up hb2
    have hw2 := bon hw1 hb2
    clear hb2 b1 hw1 c0 c1 c2
    obtain ⟨⟨c0, c1, c2⟩, _⟩ := b2.three
    cases hg : T.gens.all inG with
    | false =>
      have HG := Lib.hid hg
      clear hg
      go_wp2_with fail
      go_ret
      exact ⟨ret_bool (by rw [HE.out, HS.out, HG.out]; rfl), hw2⟩
    | true =>
      have HG := Lib.hid hg
      clear hg
      go_wp2_with fail
      refine (listed_any (HH.out.up hw2) HS.out).mono ?_
      rintro e w3 ⟨rfl, hb3⟩
      go_wp2
      go_ret
      exact ⟨ret_bool (by rw [HE.out, HS.out, HG.out]; rfl), bon hw2 hb3⟩

set_option maxHeartbeats 1000000 in
theorem hasT_any (h : At w T Ag N cg Ab M cb Af F cf) (id : Int) (hid : id ≤ 9223372036854775807) :
    Calls Try.prog 15 #[tv Ag N cg Ab M cb Af F cf, .int .i64 id] w fun e w' => e = .returned (.bool (hasT T id)) ∧ Below w.heap.size w w' := by
  have HH := Lib.hid h
  clear h
  unfold tv
  go_enter Try.func15, Try.ntmps15
  go_wp2_with fail
  refine (right_any (HH.out.up (ba1 _ _))).mono ?_
  rintro e w1 ⟨rfl, hb1⟩
  have b1 := (Box.new w 25 #[.slice Ag N cg, .slice Ab M cb, .slice Af F cf]).up hb1
  have hw1 := bon (ba1 w _) hb1
  clear hb1
  obtain ⟨⟨c0, c1, c2⟩, _⟩ := b1.three
  cases hs : okT T with
  | false =>
    have HS := Lib.hid hs
    clear hs
    go_wp2_with fail
    go_ret
    exact ⟨ret_bool (by rw [hasT, HS.out]; rfl), hw1⟩
  | true =>
    have HS := Lib.hid hs
    clear hs
    go_wp2_with fail
    refine (has_any (HH.out.up hw1) id hid HS.out).mono ?_
    rintro e w2 ⟨rfl, hb2⟩
    go_wp2
    go_ret
    exact ⟨ret_bool (by rw [hasT, HS.out]; rfl), bon hw1 hb2⟩

end
end Go.Proofs.Ytkglgbbekmljcaa
