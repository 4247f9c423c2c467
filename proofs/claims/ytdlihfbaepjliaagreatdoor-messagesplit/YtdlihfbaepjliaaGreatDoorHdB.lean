/-
  The walks of Right: the document's own, and head's.
-/
import Derived.Test.YtdlihfbaepjliaaGreatDoorHdA
import Derived.Test.YtdlihfbaepjliaaGreatDoorProg
import Derived.Lib.SlTrimSet
import Derived.WalkKit
import Derived.Lib.Split
import Derived.WalkSpells
import Derived.WalkLawsBesides
import Derived.WalkSmall
import Derived.Lib.Hide
import Derived.IntWalk
import Derived.BigQuiet
import Derived.Laws.OwnMore
import Derived.Deep.AppendLies
import Derived.Deep.RegionLaw
import Derived.Deep.Upon
import Derived.Deep.DeepCutAuto
import Derived.Lib.IndexLaws
import Derived.Shelf.LaysM
import Derived.Shelf.Small.Strs
import Derived.Shelf.Small.Wraps
import Derived.Shelf.Strings.Search1
import Derived.Shelf.Strings.Search2
import Derived.Shelf.Strings.SlTrimAscii
import Derived.Shelf.Strings.Split
import Derived.Shelf.Strings.Prefix
import Derived.Shelf.Strconv.Itoa4
import Derived.Lib.SmallJoins
import Derived.Lib.LaidTab
import Derived.Lib.AppendIntMem
import Derived.Lib.IndexAny
import Derived.RangeFuncNested
import Derived.RangeFuncBound
import Derived.RangeFuncCalls
import Derived.RangeFuncLeaves
import Derived.Shelf.Abstract
import Derived.Shelf.RegionOpen
import Derived.OwnWalkIn
import Derived.TacticsInMore
import Derived.LoopNIn
import Derived.LoopIn
import Derived.Maps.AppendAt
namespace Go.Proofs.YtdlihfbaepjliaaGreatDoor
open Go.RowKit

def rightV (mi st : Int) (bf bn bt br em et er a : Bool) : Bool := (decide (mi = 0) || decide (mi = 1)) && bf && (if a = true then statB st && br && em && et else bn && bt && decide (st = 0) && er)
theorem dl_emp (s : ByteArray) : (dl s).isEmpty = decide (s.size = 0) := by
  by_cases h : s.size = 0
  · rw [decide_eq_true h, dl_nil h]; rfl
  · rw [decide_eq_false h]
    cases hd : dl s with
    | nil => exact absurd (by rw [← dl_len, hd]; rfl) h
    | cons x r => rfl
theorem right_eq (m t : ByteArray) (st : Int) (r : ByteArray) (mi : Int) (fs : List Fd) (a : Bool) : rightB (hdOf m t st r mi fs) a = rightV mi st (fieldsB (dls fs)) (nameB (dl m)) (targetB (dl t)) (reasonB (dl r)) (decide (m.size = 0)) (decide (t.size = 0)) (decide (r.size = 0)) a := by
  unfold rightB kindB rightV hdOf
  simp only [dl_emp]

section
variable (m t : ByteArray) (st : Int) (r : ByteArray) (mi : Int) (A : Option Addr) (n c : Nat) (fs : List Fd) (a : Bool) (w : World) (hm : m.size ≤ 4096) (ht : t.size ≤ 4096) (hr : r.size ≤ 4096) (hL : Fs w ⟨A, n, c⟩ fs) (hn : n ≤ 4096) (hf : Few fs)
include hm ht hr hL hn hf

set_option maxRecDepth 100000 in
set_option maxHeartbeats 4000000 in
theorem rright_any : Calls Tryz.prog 47 #[.agg #[.string m, .string t, .int .i64 st, .string r, .int .i64 mi, .slice A n c], .bool a] w (BoolEnds (rightB (hdOf m t st r mi fs) a) w) := by
  have HF := Lib.hid (rfields_any A n c fs (w.alloc (.cells #[.string m, .string t, .int .i64 st, .string r, .int .i64 mi, .slice A n c] 29)) (hL.up (ba1 _ _)) hn hf)
  have HN := Lib.hid (fun W => rname_any m hm W)
  have HT := Lib.hid (fun W => rtarget_any t ht W)
  have HR := Lib.hid (fun W => rreason_any r hr W)
  have HE := Lib.hid (right_eq m t st r mi fs a)
  have em := isEmp (s := m)
  have et := isEmp (s := t)
  have er := isEmp (s := r)
  clear hm ht hr hL hn hf
  generalize fieldsB (dls fs) = bf at *
  generalize nameB (dl m) = bn at *
  generalize targetB (dl t) = bt at *
  generalize reasonB (dl r) = br at *
  generalize decide (m.size = 0) = zm at *
  generalize decide (t.size = 0) = zt at *
  generalize decide (r.size = 0) = zr at *
  have hcase : mi < 0 ∨ 1 < mi ∨ ((mi = 0 ∨ mi = 1) ∧ 0 ≤ mi ∧ mi ≤ 1) := by omega
  rcases hcase with h | h | ⟨h, h0, h1⟩
  · have HV : Hid (rightB (hdOf m t st r mi fs) a = false) := Lib.hid (by rw [HE.out, rightV, decide_eq_false (by omega), decide_eq_false (by omega)]; rfl)
    go_enter Tryz.func47, Tryz.ntmps47
    go_wp2
    go_ret
    exact ⟨ret_bool HV.out.symm, ba1 _ _⟩
  · have HV : Hid (rightB (hdOf m t st r mi fs) a = false) := Lib.hid (by rw [HE.out, rightV, decide_eq_false (by omega), decide_eq_false (by omega)]; rfl)
    go_enter Tryz.func47, Tryz.ntmps47
    go_wp2
    go_ret
    exact ⟨ret_bool HV.out.symm, ba1 _ _⟩
  · have HE1 : Hid (rightB (hdOf m t st r mi fs) a = (bf && (if a = true then statB st && br && zm && zt else bn && bt && decide (st = 0) && zr))) := Lib.hid (by
      rw [HE.out, rightV]
      rcases h with rfl | rfl <;> simp)
    clear HE h
    cases bf with
    | false =>
      have HV : Hid (rightB (hdOf m t st r mi fs) a = false) := Lib.hid (by rw [HE1.out]; rfl)
      go_enter Tryz.func47, Tryz.ntmps47
      go_wp2_with fail
      refine HF.out.mono ?_
      rintro e w' ⟨rfl, rfl⟩
      go_wp2
      go_ret
      exact ⟨ret_bool HV.out.symm, ba1 _ _⟩
    | true =>
      cases a with
      | false =>
        go_enter Tryz.func47, Tryz.ntmps47
        go_wp2_with fail
        refine HF.out.mono ?_
        rintro e w' ⟨rfl, rfl⟩
        go_wp2_with fail
        refine (HN.out _).mono ?_
        rintro e w' ⟨rfl, rfl⟩
        cases bn with
        | false =>
          have HV : Hid (rightB (hdOf m t st r mi fs) false = false) := Lib.hid (by rw [HE1.out]; rfl)
          go_wp2
          go_ret
          exact ⟨ret_bool HV.out.symm, ba1 _ _⟩
        | true =>
          go_wp2_with fail
          refine (HT.out _).mono ?_
          rintro e w' ⟨rfl, rfl⟩
          cases bt with
          | false =>
            have HV : Hid (rightB (hdOf m t st r mi fs) false = false) := Lib.hid (by rw [HE1.out]; rfl)
            go_wp2
            go_ret
            exact ⟨ret_bool HV.out.symm, ba1 _ _⟩
          | true =>
            by_cases hs : st = 0
            · subst hs
              have HV : Hid (rightB (hdOf m t 0 r mi fs) false = zr) := Lib.hid (by rw [HE1.out]; cases zr <;> rfl)
              go_wp2
              go_ret
              exact ⟨ret_bool (by rw [HV.out]), ba1 _ _⟩
            · have HV : Hid (rightB (hdOf m t st r mi fs) false = false) := Lib.hid (by rw [HE1.out, decide_eq_false hs]; rfl)
              have e1 : (st == 0) = false := beq_eq_false_iff_ne.2 hs
              clear hs
              go_wp2
              go_ret
              exact ⟨ret_bool HV.out.symm, ba1 _ _⟩
      | true =>
        go_enter Tryz.func47, Tryz.ntmps47
        go_wp2_with fail
        refine HF.out.mono ?_
        rintro e w' ⟨rfl, rfl⟩
        cases zm with
        | false =>
          have HV : Hid (rightB (hdOf m t st r mi fs) true = false) := Lib.hid (by rw [HE1.out]; simp)
          go_wp2
          go_ret
          exact ⟨ret_bool HV.out.symm, ba1 _ _⟩
        | true =>
          cases zt with
          | false =>
            have HV : Hid (rightB (hdOf m t st r mi fs) true = false) := Lib.hid (by rw [HE1.out]; simp)
            go_wp2
            go_ret
            exact ⟨ret_bool HV.out.symm, ba1 _ _⟩
          | true =>
            by_cases hs : 100 ≤ st
            · by_cases hs2 : st ≤ 599
              · have HV : Hid (rightB (hdOf m t st r mi fs) true = br) := Lib.hid (by rw [HE1.out, statB, decide_eq_true hs, decide_eq_true hs2]; simp)
                go_wp2_with fail
                refine (HR.out _).mono ?_
                rintro e w' ⟨rfl, rfl⟩
                go_wp2
                go_ret
                exact ⟨ret_bool (by rw [HV.out]), ba1 _ _⟩
              · have HV : Hid (rightB (hdOf m t st r mi fs) true = false) := Lib.hid (by rw [HE1.out, statB, decide_eq_false hs2]; simp)
                go_wp2
                go_ret
                exact ⟨ret_bool HV.out.symm, ba1 _ _⟩
            · have HV : Hid (rightB (hdOf m t st r mi fs) true = false) := Lib.hid (by rw [HE1.out, statB, decide_eq_false hs]; simp)
              go_wp2
              go_ret
              exact ⟨ret_bool HV.out.symm, ba1 _ _⟩
end
end Go.Proofs.YtdlihfbaepjliaaGreatDoor
