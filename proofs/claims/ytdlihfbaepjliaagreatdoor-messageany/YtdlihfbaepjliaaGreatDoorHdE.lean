/-
  The walks of the document's own first lines: request and answer.
-/
import Derived.Test.YtdlihfbaepjliaaGreatDoorHdA
import Derived.Test.YtdlihfbaepjliaaGreatDoorJHdU
import Derived.Test.YtdlihfbaepjliaaGreatDoorProg
import Derived.Lib.SlTrimSet
import Derived.WalkKit
import Derived.Lib.Split
import Derived.WalkSpells
import Derived.WalkLawsBesides
import Derived.WalkSmall
import Derived.Lib.Hide
import Derived.IntWalk
import Derived.BigQuiet
import Derived.Laws.OwnMore
import Derived.Deep.AppendLies
import Derived.Deep.RegionLaw
import Derived.Deep.Upon
import Derived.Deep.DeepCutAuto
import Derived.Lib.IndexLaws
import Derived.Shelf.LaysM
import Derived.Shelf.Small.Strs
import Derived.Shelf.Small.Wraps
import Derived.Shelf.Strings.Search1
import Derived.Shelf.Strings.Search2
import Derived.Shelf.Strings.SlTrimAscii
import Derived.Shelf.Strings.Split
import Derived.Shelf.Strings.Prefix
import Derived.Shelf.Strconv.Itoa4
import Derived.Lib.SmallJoins
import Derived.Lib.LaidTab
import Derived.Lib.AppendIntMem
import Derived.Lib.IndexAny
import Derived.RangeFuncNested
import Derived.RangeFuncBound
import Derived.RangeFuncCalls
import Derived.RangeFuncLeaves
import Derived.Shelf.Abstract
import Derived.Shelf.RegionOpen
import Derived.OwnWalkIn
import Derived.TacticsInMore
import Derived.LoopNIn
import Derived.LoopIn
import Derived.Maps.AppendAt
namespace Go.Proofs.YtdlihfbaepjliaaGreatDoor
open Go.RowKit
/-- what a first line tells, and its error -/
def FirstEnds (q : Hd × Int) (w : World) (e : Ending) (w' : World) : Prop :=
  ∃ (m t : ByteArray) (st : Int) (r : ByteArray) (mi : Int), e = .returned (.tuple #[.agg #[.string m, .string t, .int .i64 st, .string r, .int .i64 mi, .slice none 0 0], .int .i64 q.2]) ∧ (q.2 = 0 → hdOf m t st r mi [] = q.1) ∧ Below w.heap.size w w'

theorem bef_sz {c : UInt8} {l : Bs} {a : ByteArray} (h : dl a = befL c l) (hl : l.length ≤ 4096) : a.size ≤ 4096 := by
  have := (cut_len c l).1
  rw [← h, dl_len] at this
  omega
theorem aft_sz {c : UInt8} {l : Bs} {a : ByteArray} (h : dl a = aftL c l) (hl : l.length ≤ 4096) : a.size ≤ 4096 := by
  have := (cut_len c l).2
  rw [← h, dl_len] at this
  omega
theorem req_bad {l : Bs} (h : ¬ (two l = true ∧ nameB (p1 l) = true ∧ targetB (p2 l) = true)) : reqL l = (Hd.zero, 20) := if_neg h
theorem ans_bad {l : Bs} (h : ¬ (two l = true ∧ (p2 l).length = 3 ∧ (p2 l).all digC = true ∧ reasonB (p3 l) = true)) : ansL l = (Hd.zero, 20) := if_neg h

set_option maxRecDepth 100000 in
set_option maxHeartbeats 1500000 in
theorem rrequest_any (s : ByteArray) (hs : s.size ≤ 4096) (w : World) : Calls Tryz.prog 97 #[.string s] w (FirstEnds (reqL (dl s)) w) := by
  go_enter Tryz.func97, Tryz.ntmps97
  go_wp2_with fail
  have hg0 := Box.new w 29 #[.string ⟨#[]⟩, .string ⟨#[]⟩, .int .i64 0, .string ⟨#[]⟩, .int .i64 0, .slice none 0 0]
  have hb0 := ba1 w (.cells #[.string ⟨#[]⟩, .string ⟨#[]⟩, .int .i64 0, .string ⟨#[]⟩, .int .i64 0, .slice none 0 0] 29)
  obtain ⟨g, hg⟩ : ∃ g, w.heap.size = g := ⟨_, rfl⟩
  rw [hg] at hg0 ⊢
  have HG := Lib.hid hg
  clear hg
  generalize w.alloc (.cells #[.string ⟨#[]⟩, .string ⟨#[]⟩, .int .i64 0, .string ⟨#[]⟩, .int .i64 0, .slice none 0 0] 29) = W0 at *
  refine (rcut_any s hs _).mono ?_
  rintro e w1 ⟨x, y, rfl, hx, hy, hb1⟩
  have hxs := bef_sz hx (by rw [dl_len]; exact hs)
  have hys := aft_sz hy (by rw [dl_len]; exact hs)
  have bg1 := hg0.up hb1
  have hw1 := bon hb0 hb1
  clear hg0 hb0 hb1
  have HT : Hid (two (dl s) = ((dl s).contains 32 && (aftL 32 (dl s)).contains 32)) := Lib.hid rfl
  obtain ⟨c1, hc1⟩ : ∃ c, (dl s).contains 32 = c := ⟨_, rfl⟩
  rw [hc1] at HT ⊢
  clear hc1
  go_wp2_with fail
  refine (rcut_any y hys _).mono ?_
  rintro e w2 ⟨z, v, rfl, hz, hv, hb2⟩
  have hzs := bef_sz hz (by rw [dl_len]; exact hys)
  have hvs := aft_sz hv (by rw [dl_len]; exact hys)
  have bg := bg1.up hb2
  have hbw := bon hw1 hb2
  clear bg1 hw1 hb2
  rw [hy] at hz hv ⊢
  have HX : Hid (dl x = p1 (dl s) ∧ dl z = p2 (dl s) ∧ dl v = p3 (dl s)) := Lib.hid ⟨hx, hz, hv⟩
  obtain ⟨c2, hc2⟩ : ∃ c, (aftL 32 (dl s)).contains 32 = c := ⟨_, rfl⟩
  rw [hc2] at HT ⊢
  clear hc2 hx hy hz hv
  have HN := Lib.hid (fun W => rname_any x hxs W)
  have HG2 := Lib.hid (fun W => rtarget_any z hzs W)
  have HV := Lib.hid (fun W => rversion_any v W)
  rw [HX.out.1] at HN
  rw [HX.out.2.1] at HG2
  rw [HX.out.2.2] at HV
  obtain ⟨b1, hb⟩ : ∃ b, nameB (p1 (dl s)) = b := ⟨_, rfl⟩
  rw [hb] at HN
  have HB1 := Lib.hid hb
  clear hb
  obtain ⟨b2, hb⟩ : ∃ b, targetB (p2 (dl s)) = b := ⟨_, rfl⟩
  rw [hb] at HG2
  have HB2 := Lib.hid hb
  clear hb
  cases c1 with
  | false =>
    have HE : Hid (reqL (dl s) = (Hd.zero, 20)) := Lib.hid (req_bad (fun h => by rw [HT.out] at h; cases h.1))
    have HQ := Lib.hid (bg.set6 (.string ⟨#[]⟩) (.string ⟨#[]⟩) (.int .i64 0) (.string ⟨#[]⟩) (.int .i64 0) (.slice none 0 0)).six
    have HW := Lib.hid (below_set6 hbw (g := g) (by rw [HG.out]; exact Nat.le_refl _) (.string ⟨#[]⟩) (.string ⟨#[]⟩) (.int .i64 0) (.string ⟨#[]⟩) (.int .i64 0) (.slice none 0 0))
    obtain ⟨k0, k1, k2, k3, k4, k5⟩ := bg.six
    obtain ⟨f0, f1, f2, f3, f4, f5⟩ := bg.sixf
    go_wp2
    obtain ⟨q0, q1, q2, q3, q4, q5⟩ := HQ.out
    refine bodyPost_ret (v := .tuple #[.agg #[.string ⟨#[]⟩, .string ⟨#[]⟩, .int .i64 0, .string ⟨#[]⟩, .int .i64 0, .slice none 0 0], .int .i64 20]) (by simp [results, Tryz.results97, go_sem, q0, q1, q2, q3, q4, q5]) rfl ?_
    exact ⟨_, _, _, _, _, by rw [HE.out], (fun h => by rw [HE.out] at h; cases h), HW.out⟩
  | true =>
    cases c2 with
    | false =>
      have HE : Hid (reqL (dl s) = (Hd.zero, 20)) := Lib.hid (req_bad (fun h => by rw [HT.out] at h; cases h.1))
      have HQ := Lib.hid (bg.set6 (.string ⟨#[]⟩) (.string ⟨#[]⟩) (.int .i64 0) (.string ⟨#[]⟩) (.int .i64 0) (.slice none 0 0)).six
      have HW := Lib.hid (below_set6 hbw (g := g) (by rw [HG.out]; exact Nat.le_refl _) (.string ⟨#[]⟩) (.string ⟨#[]⟩) (.int .i64 0) (.string ⟨#[]⟩) (.int .i64 0) (.slice none 0 0))
      obtain ⟨k0, k1, k2, k3, k4, k5⟩ := bg.six
      obtain ⟨f0, f1, f2, f3, f4, f5⟩ := bg.sixf
      go_wp2
      obtain ⟨q0, q1, q2, q3, q4, q5⟩ := HQ.out
      refine bodyPost_ret (v := .tuple #[.agg #[.string ⟨#[]⟩, .string ⟨#[]⟩, .int .i64 0, .string ⟨#[]⟩, .int .i64 0, .slice none 0 0], .int .i64 20]) (by simp [results, Tryz.results97, go_sem, q0, q1, q2, q3, q4, q5]) rfl ?_
      exact ⟨_, _, _, _, _, by rw [HE.out], (fun h => by rw [HE.out] at h; cases h), HW.out⟩
    | true =>
      go_wp2_with fail
      refine (HN.out _).mono ?_
      rintro e w3 ⟨rfl, rfl⟩
      cases b1 with
      | false =>
        have HE : Hid (reqL (dl s) = (Hd.zero, 20)) := Lib.hid (req_bad (fun h => by rw [HB1.out] at h; cases h.2.1))
        have HQ := Lib.hid (bg.set6 (.string ⟨#[]⟩) (.string ⟨#[]⟩) (.int .i64 0) (.string ⟨#[]⟩) (.int .i64 0) (.slice none 0 0)).six
        have HW := Lib.hid (below_set6 hbw (g := g) (by rw [HG.out]; exact Nat.le_refl _) (.string ⟨#[]⟩) (.string ⟨#[]⟩) (.int .i64 0) (.string ⟨#[]⟩) (.int .i64 0) (.slice none 0 0))
        obtain ⟨k0, k1, k2, k3, k4, k5⟩ := bg.six
        obtain ⟨f0, f1, f2, f3, f4, f5⟩ := bg.sixf
        go_wp2
        obtain ⟨q0, q1, q2, q3, q4, q5⟩ := HQ.out
        refine bodyPost_ret (v := .tuple #[.agg #[.string ⟨#[]⟩, .string ⟨#[]⟩, .int .i64 0, .string ⟨#[]⟩, .int .i64 0, .slice none 0 0], .int .i64 20]) (by simp [results, Tryz.results97, go_sem, q0, q1, q2, q3, q4, q5]) rfl ?_
        exact ⟨_, _, _, _, _, by rw [HE.out], (fun h => by rw [HE.out] at h; cases h), HW.out⟩
      | true =>
        go_wp2_with fail
        refine (HG2.out _).mono ?_
        rintro e w3 ⟨rfl, rfl⟩
        cases b2 with
        | false =>
          have HE : Hid (reqL (dl s) = (Hd.zero, 20)) := Lib.hid (req_bad (fun h => by rw [HB2.out] at h; cases h.2.2))
          have HQ := Lib.hid (bg.set6 (.string ⟨#[]⟩) (.string ⟨#[]⟩) (.int .i64 0) (.string ⟨#[]⟩) (.int .i64 0) (.slice none 0 0)).six
          have HW := Lib.hid (below_set6 hbw (g := g) (by rw [HG.out]; exact Nat.le_refl _) (.string ⟨#[]⟩) (.string ⟨#[]⟩) (.int .i64 0) (.string ⟨#[]⟩) (.int .i64 0) (.slice none 0 0))
          obtain ⟨k0, k1, k2, k3, k4, k5⟩ := bg.six
          obtain ⟨f0, f1, f2, f3, f4, f5⟩ := bg.sixf
          go_wp2
          obtain ⟨q0, q1, q2, q3, q4, q5⟩ := HQ.out
          refine bodyPost_ret (v := .tuple #[.agg #[.string ⟨#[]⟩, .string ⟨#[]⟩, .int .i64 0, .string ⟨#[]⟩, .int .i64 0, .slice none 0 0], .int .i64 20]) (by simp [results, Tryz.results97, go_sem, q0, q1, q2, q3, q4, q5]) rfl ?_
          exact ⟨_, _, _, _, _, by rw [HE.out], (fun h => by rw [HE.out] at h; cases h), HW.out⟩
        | true =>
          have HE : Hid (reqL (dl s) = (⟨p1 (dl s), p2 (dl s), 0, [], (versL (p3 (dl s))).1, []⟩, (versL (p3 (dl s))).2)) := Lib.hid (if_pos ⟨HT.out, HB1.out, HB2.out⟩)
          obtain ⟨q, hq⟩ : ∃ q, versL (p3 (dl s)) = q := ⟨_, rfl⟩
          rw [hq] at HE HV
          clear hq
          obtain ⟨vm, ve⟩ := q
          go_wp2_with fail
          refine (HV.out _).mono ?_
          rintro e w3 ⟨rfl, rfl⟩
          have HQ := Lib.hid (bg.set6 (.string x) (.string z) (.int .i64 0) (.string ⟨#[]⟩) (.int .i64 vm) (.slice none 0 0)).six
          have HW := Lib.hid (below_set6 hbw (g := g) (by rw [HG.out]; exact Nat.le_refl _) (.string x) (.string z) (.int .i64 0) (.string ⟨#[]⟩) (.int .i64 vm) (.slice none 0 0))
          obtain ⟨k0, k1, k2, k3, k4, k5⟩ := bg.six
          obtain ⟨f0, f1, f2, f3, f4, f5⟩ := bg.sixf
          go_wp2
          obtain ⟨q0, q1, q2, q3, q4, q5⟩ := HQ.out
          refine bodyPost_ret (v := .tuple #[.agg #[.string x, .string z, .int .i64 0, .string ⟨#[]⟩, .int .i64 vm, .slice none 0 0], .int .i64 ve]) (by simp [results, Tryz.results97, go_sem, q0, q1, q2, q3, q4, q5]) rfl ?_
          exact ⟨_, _, _, _, _, by rw [HE.out], fun _ => by rw [HE.out, ← HX.out.1, ← HX.out.2.1]; rfl, HW.out⟩

theorem dig3 {z : ByteArray} (h3 : z.size = 3) : (dl z).all digC = (digC (z[0]'(by omega)) && digC (z[1]'(by omega)) && digC (z[2]'(by omega))) := by
  have e : dl z = [z[0]'(by omega), z[1]'(by omega), z[2]'(by omega)] := by
    apply List.ext_getElem?
    intro i
    match i with
    | 0 => rw [dl_at (by omega)]; rfl
    | 1 => rw [dl_at (by omega)]; rfl
    | 2 => rw [dl_at (by omega)]; rfl
    | i + 3 => rw [List.getElem?_eq_none (by rw [dl_len]; omega)]; rfl
  rw [e]
  simp [Bool.and_assoc]

set_option maxRecDepth 100000 in
set_option maxHeartbeats 1500000 in
theorem ranswer_any (s : ByteArray) (hs : s.size ≤ 4096) (w : World) : Calls Tryz.prog 98 #[.string s] w (FirstEnds (ansL (dl s)) w) := by
  go_enter Tryz.func98, Tryz.ntmps98
  go_wp2_with fail
  have hg0 := Box.new w 29 #[.string ⟨#[]⟩, .string ⟨#[]⟩, .int .i64 0, .string ⟨#[]⟩, .int .i64 0, .slice none 0 0]
  have hb0 := ba1 w (.cells #[.string ⟨#[]⟩, .string ⟨#[]⟩, .int .i64 0, .string ⟨#[]⟩, .int .i64 0, .slice none 0 0] 29)
  obtain ⟨g, hg⟩ : ∃ g, w.heap.size = g := ⟨_, rfl⟩
  rw [hg] at hg0 ⊢
  have HG := Lib.hid hg
  clear hg
  generalize w.alloc (.cells #[.string ⟨#[]⟩, .string ⟨#[]⟩, .int .i64 0, .string ⟨#[]⟩, .int .i64 0, .slice none 0 0] 29) = W0 at *
  refine (rcut_any s hs _).mono ?_
  rintro e w1 ⟨x, y, rfl, hx, hy, hb1⟩
  have hxs := bef_sz hx (by rw [dl_len]; exact hs)
  have hys := aft_sz hy (by rw [dl_len]; exact hs)
  have bg1 := hg0.up hb1
  have hw1 := bon hb0 hb1
  clear hg0 hb0 hb1
  have HT : Hid (two (dl s) = ((dl s).contains 32 && (aftL 32 (dl s)).contains 32)) := Lib.hid rfl
  obtain ⟨c1, hc1⟩ : ∃ c, (dl s).contains 32 = c := ⟨_, rfl⟩
  rw [hc1] at HT ⊢
  clear hc1
  go_wp2_with fail
  refine (rcut_any y hys _).mono ?_
  rintro e w2 ⟨z, v, rfl, hz, hv, hb2⟩
  have hzs := bef_sz hz (by rw [dl_len]; exact hys)
  have hvs := aft_sz hv (by rw [dl_len]; exact hys)
  have bg := bg1.up hb2
  have hbw := bon hw1 hb2
  clear bg1 hw1 hb2
  rw [hy] at hz hv ⊢
  have HX : Hid (dl x = p1 (dl s) ∧ dl z = p2 (dl s) ∧ dl v = p3 (dl s)) := Lib.hid ⟨hx, hz, hv⟩
  obtain ⟨c2, hc2⟩ : ∃ c, (aftL 32 (dl s)).contains 32 = c := ⟨_, rfl⟩
  rw [hc2] at HT ⊢
  clear hc2 hx hy hz hv
  have HR := Lib.hid (fun W => rreason_any v hvs W)
  have HV := Lib.hid (fun W => rversion_any x W)
  have HP := Lib.hid (fun W => Nm.rparse_any z 10 W (by unfold maxLen; omega))
  rw [HX.out.2.2] at HR
  rw [HX.out.1] at HV
  rw [show z.data.toList = p2 (dl s) from HX.out.2.1] at HP
  obtain ⟨b1, hb⟩ : ∃ b, reasonB (p3 (dl s)) = b := ⟨_, rfl⟩
  rw [hb] at HR
  have HB1 := Lib.hid hb
  clear hb hvs hxs hys
  cases c1 with
  | false =>
    have HE : Hid (ansL (dl s) = (Hd.zero, 20)) := Lib.hid (ans_bad (fun h => by rw [HT.out] at h; cases h.1))
    have HQ := Lib.hid (bg.set6 (.string ⟨#[]⟩) (.string ⟨#[]⟩) (.int .i64 0) (.string ⟨#[]⟩) (.int .i64 0) (.slice none 0 0)).six
    have HW := Lib.hid (below_set6 hbw (g := g) (by rw [HG.out]; exact Nat.le_refl _) (.string ⟨#[]⟩) (.string ⟨#[]⟩) (.int .i64 0) (.string ⟨#[]⟩) (.int .i64 0) (.slice none 0 0))
    obtain ⟨k0, k1, k2, k3, k4, k5⟩ := bg.six
    obtain ⟨f0, f1, f2, f3, f4, f5⟩ := bg.sixf
    go_wp2
    obtain ⟨q0, q1, q2, q3, q4, q5⟩ := HQ.out
    refine bodyPost_ret (v := .tuple #[.agg #[.string ⟨#[]⟩, .string ⟨#[]⟩, .int .i64 0, .string ⟨#[]⟩, .int .i64 0, .slice none 0 0], .int .i64 20]) (by simp [results, Tryz.results98, go_sem, q0, q1, q2, q3, q4, q5]) rfl ?_
    exact ⟨_, _, _, _, _, by rw [HE.out], (fun h => by rw [HE.out] at h; cases h), HW.out⟩
  | true =>
    cases c2 with
    | false =>
      have HE : Hid (ansL (dl s) = (Hd.zero, 20)) := Lib.hid (ans_bad (fun h => by rw [HT.out] at h; cases h.1))
      have HQ := Lib.hid (bg.set6 (.string ⟨#[]⟩) (.string ⟨#[]⟩) (.int .i64 0) (.string ⟨#[]⟩) (.int .i64 0) (.slice none 0 0)).six
      have HW := Lib.hid (below_set6 hbw (g := g) (by rw [HG.out]; exact Nat.le_refl _) (.string ⟨#[]⟩) (.string ⟨#[]⟩) (.int .i64 0) (.string ⟨#[]⟩) (.int .i64 0) (.slice none 0 0))
      obtain ⟨k0, k1, k2, k3, k4, k5⟩ := bg.six
      obtain ⟨f0, f1, f2, f3, f4, f5⟩ := bg.sixf
      go_wp2
      obtain ⟨q0, q1, q2, q3, q4, q5⟩ := HQ.out
      refine bodyPost_ret (v := .tuple #[.agg #[.string ⟨#[]⟩, .string ⟨#[]⟩, .int .i64 0, .string ⟨#[]⟩, .int .i64 0, .slice none 0 0], .int .i64 20]) (by simp [results, Tryz.results98, go_sem, q0, q1, q2, q3, q4, q5]) rfl ?_
      exact ⟨_, _, _, _, _, by rw [HE.out], (fun h => by rw [HE.out] at h; cases h), HW.out⟩
    | true =>
      by_cases h3 : z.size = 3
      case neg =>
        have HE : Hid (ansL (dl s) = (Hd.zero, 20)) := Lib.hid (ans_bad (fun h => h3 (by rw [← dl_len, HX.out.2.1]; exact h.2.1)))
        have e3 : ((z.size : Int) != 3) = true := bne_iff_ne.2 (by omega)
        clear h3
        have HQ := Lib.hid (bg.set6 (.string ⟨#[]⟩) (.string ⟨#[]⟩) (.int .i64 0) (.string ⟨#[]⟩) (.int .i64 0) (.slice none 0 0)).six
        have HW := Lib.hid (below_set6 hbw (g := g) (by rw [HG.out]; exact Nat.le_refl _) (.string ⟨#[]⟩) (.string ⟨#[]⟩) (.int .i64 0) (.string ⟨#[]⟩) (.int .i64 0) (.slice none 0 0))
        obtain ⟨k0, k1, k2, k3, k4, k5⟩ := bg.six
        obtain ⟨f0, f1, f2, f3, f4, f5⟩ := bg.sixf
        go_wp2
        obtain ⟨q0, q1, q2, q3, q4, q5⟩ := HQ.out
        refine bodyPost_ret (v := .tuple #[.agg #[.string ⟨#[]⟩, .string ⟨#[]⟩, .int .i64 0, .string ⟨#[]⟩, .int .i64 0, .slice none 0 0], .int .i64 20]) (by simp [results, Tryz.results98, go_sem, q0, q1, q2, q3, q4, q5]) rfl ?_
        exact ⟨_, _, _, _, _, by rw [HE.out], (fun h => by rw [HE.out] at h; cases h), HW.out⟩
      have H0 := Lib.hid (fun W => rdigit_any (z[0]'(by omega)) W)
      have H1 := Lib.hid (fun W => rdigit_any (z[1]'(by omega)) W)
      have H2 := Lib.hid (fun W => rdigit_any (z[2]'(by omega)) W)
      have HD := Lib.hid (dig3 h3)
      rw [HX.out.2.1] at HD
      have HL : Hid ((p2 (dl s)).length = 3) := Lib.hid (by rw [← HX.out.2.1, dl_len]; exact h3)
      generalize digC (z[0]'(by omega)) = d0 at *
      generalize digC (z[1]'(by omega)) = d1 at *
      generalize digC (z[2]'(by omega)) = d2 at *
      go_wp2_with fail
      refine (H0.out _).mono ?_
      rintro e w3 ⟨rfl, rfl⟩
      cases d0 with
      | false =>
        have HE : Hid (ansL (dl s) = (Hd.zero, 20)) := Lib.hid (ans_bad (fun h => by rw [HD.out] at h; cases h.2.2.1))
        have HQ := Lib.hid (bg.set6 (.string ⟨#[]⟩) (.string ⟨#[]⟩) (.int .i64 0) (.string ⟨#[]⟩) (.int .i64 0) (.slice none 0 0)).six
        have HW := Lib.hid (below_set6 hbw (g := g) (by rw [HG.out]; exact Nat.le_refl _) (.string ⟨#[]⟩) (.string ⟨#[]⟩) (.int .i64 0) (.string ⟨#[]⟩) (.int .i64 0) (.slice none 0 0))
        obtain ⟨k0, k1, k2, k3, k4, k5⟩ := bg.six
        obtain ⟨f0, f1, f2, f3, f4, f5⟩ := bg.sixf
        go_wp2
        obtain ⟨q0, q1, q2, q3, q4, q5⟩ := HQ.out
        refine bodyPost_ret (v := .tuple #[.agg #[.string ⟨#[]⟩, .string ⟨#[]⟩, .int .i64 0, .string ⟨#[]⟩, .int .i64 0, .slice none 0 0], .int .i64 20]) (by simp [results, Tryz.results98, go_sem, q0, q1, q2, q3, q4, q5]) rfl ?_
        exact ⟨_, _, _, _, _, by rw [HE.out], (fun h => by rw [HE.out] at h; cases h), HW.out⟩
      | true =>
        go_wp2_with fail
        refine (H1.out _).mono ?_
        rintro e w3 ⟨rfl, rfl⟩
        cases d1 with
        | false =>
          have HE : Hid (ansL (dl s) = (Hd.zero, 20)) := Lib.hid (ans_bad (fun h => by rw [HD.out] at h; cases h.2.2.1))
          have HQ := Lib.hid (bg.set6 (.string ⟨#[]⟩) (.string ⟨#[]⟩) (.int .i64 0) (.string ⟨#[]⟩) (.int .i64 0) (.slice none 0 0)).six
          have HW := Lib.hid (below_set6 hbw (g := g) (by rw [HG.out]; exact Nat.le_refl _) (.string ⟨#[]⟩) (.string ⟨#[]⟩) (.int .i64 0) (.string ⟨#[]⟩) (.int .i64 0) (.slice none 0 0))
          obtain ⟨k0, k1, k2, k3, k4, k5⟩ := bg.six
          obtain ⟨f0, f1, f2, f3, f4, f5⟩ := bg.sixf
          go_wp2
          obtain ⟨q0, q1, q2, q3, q4, q5⟩ := HQ.out
          refine bodyPost_ret (v := .tuple #[.agg #[.string ⟨#[]⟩, .string ⟨#[]⟩, .int .i64 0, .string ⟨#[]⟩, .int .i64 0, .slice none 0 0], .int .i64 20]) (by simp [results, Tryz.results98, go_sem, q0, q1, q2, q3, q4, q5]) rfl ?_
          exact ⟨_, _, _, _, _, by rw [HE.out], (fun h => by rw [HE.out] at h; cases h), HW.out⟩
        | true =>
          go_wp2_with fail
          refine (H2.out _).mono ?_
          rintro e w3 ⟨rfl, rfl⟩
          cases d2 with
          | false =>
            have HE : Hid (ansL (dl s) = (Hd.zero, 20)) := Lib.hid (ans_bad (fun h => by rw [HD.out] at h; cases h.2.2.1))
            have HQ := Lib.hid (bg.set6 (.string ⟨#[]⟩) (.string ⟨#[]⟩) (.int .i64 0) (.string ⟨#[]⟩) (.int .i64 0) (.slice none 0 0)).six
            have HW := Lib.hid (below_set6 hbw (g := g) (by rw [HG.out]; exact Nat.le_refl _) (.string ⟨#[]⟩) (.string ⟨#[]⟩) (.int .i64 0) (.string ⟨#[]⟩) (.int .i64 0) (.slice none 0 0))
            obtain ⟨k0, k1, k2, k3, k4, k5⟩ := bg.six
            obtain ⟨f0, f1, f2, f3, f4, f5⟩ := bg.sixf
            go_wp2
            obtain ⟨q0, q1, q2, q3, q4, q5⟩ := HQ.out
            refine bodyPost_ret (v := .tuple #[.agg #[.string ⟨#[]⟩, .string ⟨#[]⟩, .int .i64 0, .string ⟨#[]⟩, .int .i64 0, .slice none 0 0], .int .i64 20]) (by simp [results, Tryz.results98, go_sem, q0, q1, q2, q3, q4, q5]) rfl ?_
            exact ⟨_, _, _, _, _, by rw [HE.out], (fun h => by rw [HE.out] at h; cases h), HW.out⟩
          | true =>
            go_wp2_with fail
            refine (HR.out _).mono ?_
            rintro e w3 ⟨rfl, rfl⟩
            cases b1 with
            | false =>
              have HE : Hid (ansL (dl s) = (Hd.zero, 20)) := Lib.hid (ans_bad (fun h => by rw [HB1.out] at h; cases h.2.2.2))
              have HQ := Lib.hid (bg.set6 (.string ⟨#[]⟩) (.string ⟨#[]⟩) (.int .i64 0) (.string ⟨#[]⟩) (.int .i64 0) (.slice none 0 0)).six
              have HW := Lib.hid (below_set6 hbw (g := g) (by rw [HG.out]; exact Nat.le_refl _) (.string ⟨#[]⟩) (.string ⟨#[]⟩) (.int .i64 0) (.string ⟨#[]⟩) (.int .i64 0) (.slice none 0 0))
              obtain ⟨k0, k1, k2, k3, k4, k5⟩ := bg.six
              obtain ⟨f0, f1, f2, f3, f4, f5⟩ := bg.sixf
              go_wp2
              obtain ⟨q0, q1, q2, q3, q4, q5⟩ := HQ.out
              refine bodyPost_ret (v := .tuple #[.agg #[.string ⟨#[]⟩, .string ⟨#[]⟩, .int .i64 0, .string ⟨#[]⟩, .int .i64 0, .slice none 0 0], .int .i64 20]) (by simp [results, Tryz.results98, go_sem, q0, q1, q2, q3, q4, q5]) rfl ?_
              exact ⟨_, _, _, _, _, by rw [HE.out], (fun h => by rw [HE.out] at h; cases h), HW.out⟩
            | true =>
              have HE0 : Hid (ansL (dl s) = if (versL (p1 (dl s))).2 = 0 then (if statB (parseN (p2 (dl s)) 10).1 = true then (⟨[], [], (parseN (p2 (dl s)) 10).1, p3 (dl s), (versL (p1 (dl s))).1, []⟩, 0) else (Hd.zero, 20)) else (Hd.zero, (versL (p1 (dl s))).2)) := Lib.hid (if_pos ⟨HT.out, HL.out, HD.out, HB1.out⟩)
              obtain ⟨q, hq⟩ : ∃ q, versL (p1 (dl s)) = q := ⟨_, rfl⟩
              rw [hq] at HE0 HV
              clear hq
              obtain ⟨vm, ve⟩ := q
              obtain ⟨q, hq⟩ : ∃ q, parseN (p2 (dl s)) 10 = q := ⟨_, rfl⟩
              rw [hq] at HE0 HP
              clear hq
              obtain ⟨k, ke⟩ := q
              simp only at HE0 HP
              go_wp2_with fail
              refine (HV.out _).mono ?_
              rintro e w3 ⟨rfl, rfl⟩
              go_wp2_with fail
              refine (HP.out _).mono ?_
              rintro e w3 ⟨rfl, rfl⟩
              by_cases hv0 : ve = 0
              case neg =>
                have HE : Hid (ansL (dl s) = (Hd.zero, ve)) := Lib.hid (by rw [HE0.out, if_neg hv0])
                have HNZ := Lib.hid hv0
                have e4 : (ve == 0) = false := beq_eq_false_iff_ne.2 hv0
                clear hv0
                have HQ := Lib.hid (bg.set6 (.string ⟨#[]⟩) (.string ⟨#[]⟩) (.int .i64 k) (.string v) (.int .i64 vm) (.slice none 0 0)).six
                have HW := Lib.hid (below_set6 hbw (g := g) (by rw [HG.out]; exact Nat.le_refl _) (.string ⟨#[]⟩) (.string ⟨#[]⟩) (.int .i64 k) (.string v) (.int .i64 vm) (.slice none 0 0))
                obtain ⟨k0, k1, k2, k3, k4, k5⟩ := bg.six
                obtain ⟨f0, f1, f2, f3, f4, f5⟩ := bg.sixf
                go_wp2
                obtain ⟨q0, q1, q2, q3, q4, q5⟩ := HQ.out
                refine bodyPost_ret (v := .tuple #[.agg #[.string ⟨#[]⟩, .string ⟨#[]⟩, .int .i64 k, .string v, .int .i64 vm, .slice none 0 0], .int .i64 ve]) (by simp [results, Tryz.results98, go_sem, q0, q1, q2, q3, q4, q5]) rfl ?_
                exact ⟨_, _, _, _, _, by rw [HE.out], (fun h => absurd (by rw [HE.out] at h; exact h) HNZ.out), HW.out⟩
              subst hv0
              rw [if_pos rfl] at HE0
              by_cases hk1 : k < 100
              case pos =>
                have HE : Hid (ansL (dl s) = (Hd.zero, 20)) := Lib.hid (by rw [HE0.out, if_neg (by simp [statB]; omega)])
                have HQ := Lib.hid (bg.set6 (.string ⟨#[]⟩) (.string ⟨#[]⟩) (.int .i64 k) (.string v) (.int .i64 vm) (.slice none 0 0)).six
                have HW := Lib.hid (below_set6 hbw (g := g) (by rw [HG.out]; exact Nat.le_refl _) (.string ⟨#[]⟩) (.string ⟨#[]⟩) (.int .i64 k) (.string v) (.int .i64 vm) (.slice none 0 0))
                obtain ⟨k0, k1, k2, k3, k4, k5⟩ := bg.six
                obtain ⟨f0, f1, f2, f3, f4, f5⟩ := bg.sixf
                go_wp2
                obtain ⟨q0, q1, q2, q3, q4, q5⟩ := HQ.out
                refine bodyPost_ret (v := .tuple #[.agg #[.string ⟨#[]⟩, .string ⟨#[]⟩, .int .i64 k, .string v, .int .i64 vm, .slice none 0 0], .int .i64 20]) (by simp [results, Tryz.results98, go_sem, q0, q1, q2, q3, q4, q5]) rfl ?_
                exact ⟨_, _, _, _, _, by rw [HE.out], (fun h => by rw [HE.out] at h; cases h), HW.out⟩
              by_cases hk2 : 599 < k
              case pos =>
                have HE : Hid (ansL (dl s) = (Hd.zero, 20)) := Lib.hid (by rw [HE0.out, if_neg (by simp [statB]; omega)])
                have HQ := Lib.hid (bg.set6 (.string ⟨#[]⟩) (.string ⟨#[]⟩) (.int .i64 k) (.string v) (.int .i64 vm) (.slice none 0 0)).six
                have HW := Lib.hid (below_set6 hbw (g := g) (by rw [HG.out]; exact Nat.le_refl _) (.string ⟨#[]⟩) (.string ⟨#[]⟩) (.int .i64 k) (.string v) (.int .i64 vm) (.slice none 0 0))
                obtain ⟨k0, k1, k2, k3, k4, k5⟩ := bg.six
                obtain ⟨f0, f1, f2, f3, f4, f5⟩ := bg.sixf
                go_wp2
                obtain ⟨q0, q1, q2, q3, q4, q5⟩ := HQ.out
                refine bodyPost_ret (v := .tuple #[.agg #[.string ⟨#[]⟩, .string ⟨#[]⟩, .int .i64 k, .string v, .int .i64 vm, .slice none 0 0], .int .i64 20]) (by simp [results, Tryz.results98, go_sem, q0, q1, q2, q3, q4, q5]) rfl ?_
                exact ⟨_, _, _, _, _, by rw [HE.out], (fun h => by rw [HE.out] at h; cases h), HW.out⟩
              have HE : Hid (ansL (dl s) = (⟨[], [], k, p3 (dl s), vm, []⟩, 0)) := Lib.hid (by rw [HE0.out, if_pos (by simp [statB]; omega)])
              have HQ := Lib.hid (bg.set6 (.string ⟨#[]⟩) (.string ⟨#[]⟩) (.int .i64 k) (.string v) (.int .i64 vm) (.slice none 0 0)).six
              have HW := Lib.hid (below_set6 hbw (g := g) (by rw [HG.out]; exact Nat.le_refl _) (.string ⟨#[]⟩) (.string ⟨#[]⟩) (.int .i64 k) (.string v) (.int .i64 vm) (.slice none 0 0))
              obtain ⟨k0, k1, k2, k3, k4, k5⟩ := bg.six
              obtain ⟨f0, f1, f2, f3, f4, f5⟩ := bg.sixf
              go_wp2
              obtain ⟨q0, q1, q2, q3, q4, q5⟩ := HQ.out
              refine bodyPost_ret (v := .tuple #[.agg #[.string ⟨#[]⟩, .string ⟨#[]⟩, .int .i64 k, .string v, .int .i64 vm, .slice none 0 0], .int .i64 0]) (by simp [results, Tryz.results98, go_sem, q0, q1, q2, q3, q4, q5]) rfl ?_
              exact ⟨_, _, _, _, _, by rw [HE.out], fun _ => by rw [HE.out, ← HX.out.2.2]; rfl, HW.out⟩

end Go.Proofs.YtdlihfbaepjliaaGreatDoor
