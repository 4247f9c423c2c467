/-
  The walks of the laws' own Made and Pieces.
-/
import Derived.Test.YtdlihfbaepjliaaGreatDoorLawD
import Derived.Test.YtdlihfbaepjliaaGreatDoorProg
import Derived.Lib.SlTrimSet
import Derived.WalkKit
import Derived.Lib.Split
import Derived.WalkSpells
import Derived.WalkLawsBesides
import Derived.WalkSmall
import Derived.Lib.Hide
import Derived.IntWalk
import Derived.BigQuiet
import Derived.Laws.OwnMore
import Derived.Deep.AppendLies
import Derived.Deep.RegionLaw
import Derived.Deep.Upon
import Derived.Deep.DeepCutAuto
import Derived.Lib.IndexLaws
import Derived.Shelf.LaysM
import Derived.Shelf.Small.Strs
import Derived.Shelf.Small.Wraps
import Derived.Shelf.Strings.Search1
import Derived.Shelf.Strings.Search2
import Derived.Shelf.Strings.SlTrimAscii
import Derived.Shelf.Strings.Split
import Derived.Shelf.Strings.Prefix
import Derived.Shelf.Strconv.Itoa4
import Derived.Lib.SmallJoins
import Derived.Lib.LaidTab
import Derived.Lib.AppendIntMem
import Derived.Lib.IndexAny
import Derived.RangeFuncNested
import Derived.RangeFuncBound
import Derived.RangeFuncCalls
import Derived.RangeFuncLeaves
import Derived.Shelf.Abstract
import Derived.Shelf.RegionOpen
import Derived.OwnWalkIn
import Derived.TacticsInMore
import Derived.LoopNIn
import Derived.LoopIn
import Derived.Maps.AppendAt
import Derived.Deep.RegionHeld3
import Derived.Laws.BytesArg
import Derived.Laws.IdiomStrings
namespace Go.Proofs.YtdlihfbaepjliaaGreatDoor
open Go.RowKit

/-- a head that was made is handed back -/
def MadeEnds (a : Bool) (w : World) (e : Ending) (w' : World) : Prop :=
  ∃ (m t : ByteArray) (st : Int) (r : ByteArray) (mi : Int) (S : Sli) (fs : List Fd), e = .returned (.agg #[.string m, .string t, .int .i64 st, .string r, .int .i64 mi, .slice S.A S.n S.c]) ∧ GoodH a m t st r mi fs ∧ Fs w' S fs ∧ Fresh w S ∧ Below w.heap.size w w'

set_option maxRecDepth 100000 in
set_option maxHeartbeats 2000000 in
theorem made_any (A : Option Addr) (L c : Nat) (ys : List UInt8) (a : Bool) (w : World) (hl : ys.length = L) (hm : L ≤ maxLen) (hU : Us w w.heap.size A ys) : Calls Tryz.prog 15 #[.slice A L c, .bool a] w (MadeEnds a w) := by
  have hb0 := ba2 w (.cells #[.string ⟨#[]⟩, .string ⟨#[]⟩, .int .i64 0, .string ⟨#[]⟩, .int .i64 0, .slice none 0 0] 29) (.cells #[.slice A L c, .int .i64 0] 67)
  have bm := Box.new (w.alloc (.cells #[.string ⟨#[]⟩, .string ⟨#[]⟩, .int .i64 0, .string ⟨#[]⟩, .int .i64 0, .slice none 0 0] 29)) 67 #[.slice A L c, .int .i64 0]
  have hsz : (w.alloc (.cells #[.string ⟨#[]⟩, .string ⟨#[]⟩, .int .i64 0, .string ⟨#[]⟩, .int .i64 0, .slice none 0 0] 29)).heap.size = w.heap.size + 1 := by simp
  rw [hsz] at bm
  have HC := Lib.hid (mhead_any (w.heap.size + 1) A L c ys a _ bm hl hm ((hU.low hb0).mono (Nat.le_succ _)))
  have bz := (Box.new w 29 #[.string ⟨#[]⟩, .string ⟨#[]⟩, .int .i64 0, .string ⟨#[]⟩, .int .i64 0, .slice none 0 0]).alloc (.cells #[.slice A L c, .int .i64 0] 67)
  clear bm hsz
  go_enter Tryz.func15, Tryz.ntmps15
  go_wp2_with fail
  refine HC.out.mono ?_
  rintro e w2 ⟨m, t, st, r, mi, S, fs, rfl, hG, hF, hfr, hb2⟩
  have bg := bz.below hb2 (Nat.lt_succ_self _)
  have hbw : Below w.heap.size w w2 := hb0.trans (hb2.mono (Nat.le_succ _))
  have HF6 := Lib.hid (fun u0 u1 u2 u3 u4 u5 => Fs.set6 hF (g := w.heap.size) (fun ad h => by have := hfr ad h; omega) u0 u1 u2 u3 u4 u5)
  have HGd := Lib.hid hG
  have HFr : Hid (Fresh w S) := Lib.hid (fun ad h => by have := hfr ad h; omega)
  clear hG hF hfr hb2 bz hb0 HC
  obtain ⟨g, hg⟩ : ∃ g, w.heap.size = g := ⟨_, rfl⟩
  rw [hg] at bg HF6 ⊢
  have HG := Lib.hid hg
  clear hg
  have HQ := Lib.hid (bg.set6 (.string m) (.string t) (.int .i64 st) (.string r) (.int .i64 mi) (.slice S.A S.n S.c)).six
  have HW := Lib.hid (below_set6 hbw (g := g) (by rw [HG.out]; exact Nat.le_refl _) (.string m) (.string t) (.int .i64 st) (.string r) (.int .i64 mi) (.slice S.A S.n S.c))
  obtain ⟨k0, k1, k2, k3, k4, k5⟩ := bg.six
  obtain ⟨f0, f1, f2, f3, f4, f5⟩ := bg.sixf
  go_wp2
  obtain ⟨q0, q1, q2, q3, q4, q5⟩ := HQ.out
  refine bodyPost_ret (v := .agg #[.string m, .string t, .int .i64 st, .string r, .int .i64 mi, .slice S.A S.n S.c]) (by simp [results, Tryz.results15, go_sem, q0, q1, q2, q3, q4, q5]) rfl ?_
  exact ⟨_, _, _, _, _, S, fs, rfl, HGd.out, HF6.out _ _ _ _ _ _, HFr.out, HW.out⟩

theorem good_few {a : Bool} {m t : ByteArray} {st : Int} {r : ByteArray} {mi : Int} {fs : List Fd} (h : GoodH a m t st r mi fs) : m.size ≤ 4096 ∧ t.size ≤ 4096 ∧ r.size ≤ 4096 ∧ fs.length ≤ 4096 ∧ Few fs :=
  ⟨by have := h.2.1; omega, by have := h.2.2.1; omega, by have := h.2.2.2.1; omega, by have := h.2.2.2.2.1; omega, fun f hf => by have := h.2.2.2.2.2 f hf; omega⟩

end Go.Proofs.YtdlihfbaepjliaaGreatDoor
