/-
  num's own Text at base 10, by the library's FormatInt.
-/
import Derived.Test.YtdlihfbaepjliaaGreatDoorShelf
import Derived.Test.YtdlihfbaepjliaaGreatDoorJNRef3
import Derived.Test.YtdlihfbaepjliaaGreatDoorNOwn
import Derived.Test.YtdlihfbaepjliaaGreatDoorProg
import Derived.Lib.SlTrimSet
import Derived.WalkKit
import Derived.Lib.Split
import Derived.WalkSpells
import Derived.WalkLawsBesides
import Derived.WalkSmall
import Derived.Lib.Hide
import Derived.IntWalk
import Derived.BigQuiet
import Derived.Laws.OwnMore
import Derived.Deep.AppendLies
import Derived.Deep.RegionLaw
import Derived.Deep.Upon
import Derived.Deep.DeepCutAuto
import Derived.Lib.IndexLaws
import Derived.Shelf.LaysM
import Derived.Shelf.Small.Strs
import Derived.Shelf.Small.Wraps
import Derived.Shelf.Strings.Search1
import Derived.Shelf.Strings.Search2
import Derived.Shelf.Strings.SlTrimAscii
import Derived.Shelf.Strings.Split
import Derived.Shelf.Strings.Prefix
import Derived.Shelf.Strconv.Itoa4
import Derived.Lib.SmallJoins
import Derived.Lib.LaidTab
import Derived.Lib.AppendIntMem
namespace Go.Proofs.YtdlihfbaepjliaaGreatDoor
open Go.RowKit
theorem gPow : Tryz.prog.globalNamed "internal/strconv.uint64pow10" = some 0 := by kernel_rfl
/-- what the library's own variables hold -/
structure Tabs (w : World) : Prop where
  pow : Lib.TabIs Tryz.prog w "internal/strconv.uint64pow10" .u64 Lib.pow10Tab
  mx : Mx w
theorem Tabs.up {w w' : World} (h : Tabs w) (hb : Below w.heap.size w w') : Tabs w' := ⟨Lib.tabBelow_of_tabIs h.pow w' hb, h.mx.up hb⟩
end Go.Proofs.YtdlihfbaepjliaaGreatDoor
namespace Go.Proofs.YtdlihfbaepjliaaGreatDoor.Nm
open Go.RowKit

theorem dec_dgs (n : Nat) : Lib.decDigits n = dgs 10 n := by
  induction n using Nat.strongRecOn with
  | ind n ih =>
    by_cases h : n < 10
    · rw [dgs_small h, Lib.decDigits, dif_pos h, chN, if_pos h]
    · rw [dgs_big (by omega) (by omega), Lib.decDigits, dif_neg h, ih (n / 10) (by omega), chN, if_pos (Nat.mod_lt _ (by omega))]

theorem below_grow (w : World) (k : Nat) (os : Array Obj) : Below w.heap.size w (Sort.grow (w.drewN k) os) :=
  ⟨rfl, rfl, rfl, by simp [Sort.grow, World.drewN], fun j hj => by
    show ((w.drewN k).heap ++ os)[j]? = w.heap[j]?
    exact Array.getElem?_append_left hj⟩

/-- strconv.FormatInt at base 10 -/
theorem fmt_10 (u : Nat) (hu : u ≤ 9007199254740992) (w : World) (h : Tabs w) : Calls Tryz.prog 58 #[.int .i64 (u : Int), .int .i64 10] w (TextEnds (dgs 10 u) w) := by
  refine (sh_FormatInt_10 (u : Int) (by omega) (by omega) w h.pow).mono ?_
  rintro e w1 ⟨rfl, k, os, rfl⟩
  exact ⟨_, rfl, by rw [Lib.itoa_nonneg, dec_dgs], below_grow _ _ _⟩

set_option maxHeartbeats 1000000 in
theorem text_good (n : Int) (w : World) (h : Tabs w) (hf : fitN n = true) : Calls Tryz.prog 34 #[.int .i64 n, .int .i64 10] w (TextEnds (dgs 10 n.toNat) w) := by
  obtain ⟨h0, h1⟩ := fit_iff.1 hf
  obtain ⟨u, rfl⟩ := Int.eq_ofNat_of_zero_le h0
  have key : Calls Tryz.prog 58 #[.int .i64 (u : Int), .int .i64 10] w (TextEnds (dgs 10 u) w) := fmt_10 u (by omega) w h
  go_enter Tryz.func34, Tryz.ntmps34
  go_wp2_with fail
  refine (fits_any (u : Int) _).mono ?_
  rintro e w1 ⟨rfl, hw⟩
  subst hw
  rw [hf]
  go_wp2_with fail
  refine (isBase_any 10 _).mono ?_
  rintro e w2 ⟨rfl, hw⟩
  subst hw
  rw [show baseN 10 = true from rfl]
  go_wp2_with fail
  refine key.mono ?_
  rintro e w3 ⟨s, rfl, hs, hbl⟩
  go_wp2
  go_ret
  exact ⟨s, rfl, by simpa using hs, hbl⟩

set_option maxHeartbeats 1000000 in
theorem text_bad (n : Int) (w : World) (h1 : fitN n = false) : Calls Tryz.prog 34 #[.int .i64 n, .int .i64 10] w (TextEnds [] w) := by
  go_enter Tryz.func34, Tryz.ntmps34
  go_wp2_with fail
  refine (fits_any n _).mono ?_
  rintro e w' ⟨rfl, rfl⟩
  rw [h1]
  go_wp2_with fail
  go_ret
  exact ⟨_, rfl, rfl, Below.refl _ _⟩

theorem text_any (n : Int) (w : World) (h : Tabs w) : Calls Tryz.prog 34 #[.int .i64 n, .int .i64 10] w (TextEnds (textN n 10) w) := by
  cases hf : fitN n with
  | true =>
    rw [textN, if_pos ⟨hf, .inl rfl⟩]
    exact text_good n w h hf
  | false =>
    rw [textN, if_neg (by rw [hf]; simp)]
    exact text_bad n w hf

end Go.Proofs.YtdlihfbaepjliaaGreatDoor.Nm
