/-
  The walk of the laws' own Maker: Head.
-/
import Derived.Test.YtdlihfbaepjliaaGreatDoorJHdI
import Derived.Test.YtdlihfbaepjliaaGreatDoorJLawB
import Derived.Test.YtdlihfbaepjliaaGreatDoorProg
import Derived.Lib.SlTrimSet
import Derived.WalkKit
import Derived.Lib.Split
import Derived.WalkSpells
import Derived.WalkLawsBesides
import Derived.WalkSmall
import Derived.Lib.Hide
import Derived.IntWalk
import Derived.BigQuiet
import Derived.Laws.OwnMore
import Derived.Deep.AppendLies
import Derived.Deep.RegionLaw
import Derived.Deep.Upon
import Derived.Deep.DeepCutAuto
import Derived.Lib.IndexLaws
import Derived.Shelf.LaysM
import Derived.Shelf.Small.Strs
import Derived.Shelf.Small.Wraps
import Derived.Shelf.Strings.Search1
import Derived.Shelf.Strings.Search2
import Derived.Shelf.Strings.SlTrimAscii
import Derived.Shelf.Strings.Split
import Derived.Shelf.Strings.Prefix
import Derived.Shelf.Strconv.Itoa4
import Derived.Lib.SmallJoins
import Derived.Lib.LaidTab
import Derived.Lib.AppendIntMem
import Derived.Lib.IndexAny
import Derived.RangeFuncNested
import Derived.RangeFuncBound
import Derived.RangeFuncCalls
import Derived.RangeFuncLeaves
import Derived.Shelf.Abstract
import Derived.Shelf.RegionOpen
import Derived.OwnWalkIn
import Derived.TacticsInMore
import Derived.LoopNIn
import Derived.LoopIn
import Derived.Maps.AppendAt
import Derived.Deep.RegionHeld3
import Derived.Laws.BytesArg
import Derived.Laws.IdiomStrings
namespace Go.Proofs.YtdlihfbaepjliaaGreatDoor
open Go.RowKit

set_option maxRecDepth 100000 in
set_option maxHeartbeats 2000000 in
theorem mhead_any (gm : Nat) (A : Option Addr) (L c : Nat) (ys : List UInt8) (a : Bool) (w : World) (hbx : Box w gm 67 #[.slice A L c, .int .i64 0]) (hl : ys.length = L) (hm : L ≤ maxLen) (hU : Us w gm A ys) :
    Calls Tryz.prog 30 #[.pointer (some ⟨gm, 0, none⟩), .bool a] w (HEnds a gm w) := by
  obtain ⟨i32, hi, hz0, hz1, hz2⟩ := info_parts info32
  have HPM : Hid (∀ (W : World) (gr gh B : Nat) (m t : ByteArray) (st : Int) (r : ByteArray) (mi : Int) (O : Sli) (fs : List Fd), MS w W gm gr gh A L c B m t st r mi O fs → B ≤ 1000 → ∀ n : Nat, 1 ≤ n → n ≤ 100 → Calls Tryz.prog 49 #[.pointer (some ⟨gm, 0, none⟩), .int .i64 (n : Int)] W (PMS w gm gr gh A L c B m t st r mi O fs n W)) := Lib.hid (fun _ _ _ _ _ _ _ _ _ _ _ h hB n h1 h2 => pick_ms h hU hl hm hB n h1 h2)
  have hb0 := ba1 w (.cells #[.string ⟨#[]⟩, .string ⟨#[]⟩, .int .i64 0, .string ⟨#[]⟩, .int .i64 0, .slice none 0 0] 29)
  have hgm := hbx.lt
  have HP0 := Lib.hid (pick_any gm 2 0 A L c ys _ (hbx.up hb0) (by decide) (by decide) hl hm (hU.low (hb0.mono (Nat.le_of_lt hgm))) (by decide) (by decide))
  go_enter Tryz.func30, Tryz.ntmps30
  go_wp2_with fail
  refine HP0.out.mono ?_
  rintro e w1 ⟨p0, hp0, rfl, hb1⟩
  have rb0 := Box.new w 29 #[.string ⟨#[]⟩, .string ⟨#[]⟩, .int .i64 0, .string ⟨#[]⟩, .int .i64 0, .slice none 0 0]
  have hMS : MS w (w1.alloc (.cells #[.string ⟨#[]⟩, .string ⟨#[]⟩, .int .i64 0, .string ⟨#[]⟩, .int .i64 (1 - (p0 : Int)), .slice none 0 0] 29)) gm w.heap.size w1.heap.size A L c 1 ⟨#[]⟩ ⟨#[]⟩ 0 ⟨#[]⟩ (1 - (p0 : Int)) ⟨none, 0, 0⟩ [] := by
    have hx := ((hbx.up hb0).set 1 (.int .i64 (0 + 1))).up hb1
    have hr := (rb0.far (p := ⟨gm, 1, none⟩) (by simp only; omega) (.int .i64 (0 + 1))).up hb1
    have hlow : Below gm w w1 := below_gm ((hb0.mono (Nat.le_of_lt hgm)).setCell (p := ⟨gm, 1, none⟩) (Nat.le_refl _) _) hb1 (by simp; omega)
    have hal := ba1 w1 (.cells #[.string ⟨#[]⟩, .string ⟨#[]⟩, .int .i64 0, .string ⟨#[]⟩, .int .i64 (1 - (p0 : Int)), .slice none 0 0] 29)
    refine ⟨below_gm hlow hal (Nat.le_of_lt hx.lt), ⟨1, by decide, by decide, ?_⟩, hr.up hal, Box.new _ _ _, World.ownsRow_nil _ _ _ _, hgm, hr.lt, Nat.le_refl _⟩
    have := hx.up hal
    simpa using this
  have hp0i : (p0 : Int) < 2 := by omega
  clear HP0 hb0 hbx hb1 rb0
  go_upto_region 2 with fail
  generalize w1.alloc (.cells #[.string ⟨#[]⟩, .string ⟨#[]⟩, .int .i64 0, .string ⟨#[]⟩, .int .i64 (1 - (p0 : Int)), .slice none 0 0] 29) = W0 at *
  generalize w1.heap.size = gh at *
  obtain ⟨gr, hgr⟩ : ∃ g, w.heap.size = g := ⟨_, rfl⟩
  rw [hgr] at hMS ⊢
  have HGR := Lib.hid hgr
  clear hgr hgm
  cases a
  case' true =>
    have hMu := hMS.up (ba1 W0 (.cells #[.int .i64 200, .int .i64 404, .int .i64 304, .int .i64 204, .int .i64 100, .int .i64 599, .int .i64 503] 3))
    have bl := Box.new W0 3 #[.int .i64 200, .int .i64 404, .int .i64 304, .int .i64 204, .int .i64 100, .int .i64 599, .int .i64 503]
    have hlt0 := hMS.le
    go_wp2_with fail
    refine (HPM.out _ _ _ _ _ _ _ _ _ _ _ hMu (by decide) 7 (by decide) (by decide)).mono ?_
    rintro e w2 ⟨p, hp, rfl, hM2, hk2⟩
    obtain ⟨xs, hxsm, hxc⟩ := lit_int (xs := lsS) (hk2 _ _ _ bl (by have := hMS.o1; have := hMS.o2; omega)) (p := p) hp
    have Hxs := Lib.hid hxsm
    have hpi : (p : Int) < 7 := by omega
    have hpz : (0 : Int) ≤ (p : Int) := by omega
    have hc := hM2.hb.c 2 rfl
    have hfz := hM2.hb.f 2
    have hM3 : MS w (w2.setCell ⟨gh, 2, none⟩ (.int .i64 xs)) gm gr gh A L c _ ⟨#[]⟩ ⟨#[]⟩ xs ⟨#[]⟩ (1 - (p0 : Int)) ⟨none, 0, 0⟩ [] := hM2.setH 2 (.int .i64 xs) (by simp)
    clear hMS hMu bl hM2 hk2 hlt0 hxsm
    go_upto_region 4 with fail
    clear hc hfz hxc hpi hpz
    generalize w2.setCell ⟨gh, 2, none⟩ (.int .i64 xs) = W1 at *
    generalize W0.heap.size = gxxs at *
    clear W0
    rename World => W0
    have hMS := hM3
    clear hM3
    have hMu := hMS.up (ba1 W0 (.cells #[.string ⟨#[79, 75]⟩, .string ⟨#[]⟩, .string ⟨#[78, 111, 116, 32, 70, 111, 117, 110, 100]⟩, .string ⟨#[97, 9, 98]⟩] 9))
    have bl := Box.new W0 9 #[.string ⟨#[79, 75]⟩, .string ⟨#[]⟩, .string ⟨#[78, 111, 116, 32, 70, 111, 117, 110, 100]⟩, .string ⟨#[97, 9, 98]⟩]
    have hlt0 := hMS.le
    go_wp2_with fail
    refine (HPM.out _ _ _ _ _ _ _ _ _ _ _ hMu (by decide) 4 (by decide) (by decide)).mono ?_
    rintro e w2 ⟨p, hp, rfl, hM2, hk2⟩
    obtain ⟨xr, hxrm, hxc⟩ := lit_cell (xs := lsR) (hk2 _ _ _ bl (by have := hMS.o1; have := hMS.o2; omega)) (p := p) hp
    have Hxr := Lib.hid hxrm
    have hpi : (p : Int) < 4 := by omega
    have hpz : (0 : Int) ≤ (p : Int) := by omega
    have hc := hM2.hb.c 3 rfl
    have hfz := hM2.hb.f 3
    have hM3 : MS w (w2.setCell ⟨gh, 3, none⟩ (.string xr)) gm gr gh A L c _ ⟨#[]⟩ ⟨#[]⟩ xs xr (1 - (p0 : Int)) ⟨none, 0, 0⟩ [] := hM2.setH 3 (.string xr) (by simp)
    clear hMS hMu bl hM2 hk2 hlt0 hxrm
    go_upto_region 7 with fail
    clear hc hfz hxc hpi hpz
    generalize w2.setCell ⟨gh, 3, none⟩ (.string xr) = W1 at *
    generalize W0.heap.size = gxxr at *
    clear W0
    rename World => W0
    have hMS := hM3
    clear hM3
    obtain ⟨m, t, st, r, hMS, HGF⟩ : ∃ m t st r, MS w W0 gm gr gh A L c (1 + 1 + 1) m t st r (1 - (p0 : Int)) ⟨none, 0, 0⟩ [] ∧ Hid (GoodF true m t st r) := ⟨_, _, _, _, hMS, Lib.hid (goodF_ans Hxs.out Hxr.out)⟩
  case' false =>
    have hMu := hMS.up (ba1 W0 (.cells #[.string ⟨#[71, 69, 84]⟩, .string ⟨#[80, 79, 83, 84]⟩, .string ⟨#[72, 69, 65, 68]⟩, .string ⟨#[80, 85, 84]⟩, .string ⟨#[120, 45, 121]⟩] 9))
    have bl := Box.new W0 9 #[.string ⟨#[71, 69, 84]⟩, .string ⟨#[80, 79, 83, 84]⟩, .string ⟨#[72, 69, 65, 68]⟩, .string ⟨#[80, 85, 84]⟩, .string ⟨#[120, 45, 121]⟩]
    have hlt0 := hMS.le
    go_wp2_with fail
    refine (HPM.out _ _ _ _ _ _ _ _ _ _ _ hMu (by decide) 5 (by decide) (by decide)).mono ?_
    rintro e w2 ⟨p, hp, rfl, hM2, hk2⟩
    obtain ⟨xm, hxmm, hxc⟩ := lit_cell (xs := lsM) (hk2 _ _ _ bl (by have := hMS.o1; have := hMS.o2; omega)) (p := p) hp
    have Hxm := Lib.hid hxmm
    have hpi : (p : Int) < 5 := by omega
    have hpz : (0 : Int) ≤ (p : Int) := by omega
    have hc := hM2.hb.c 0 rfl
    have hfz := hM2.hb.f 0
    have hM3 : MS w (w2.setCell ⟨gh, 0, none⟩ (.string xm)) gm gr gh A L c _ xm ⟨#[]⟩ 0 ⟨#[]⟩ (1 - (p0 : Int)) ⟨none, 0, 0⟩ [] := hM2.setH 0 (.string xm) (by simp)
    clear hMS hMu bl hM2 hk2 hlt0 hxmm
    go_upto_region 6 with fail
    clear hc hfz hxc hpi hpz
    generalize w2.setCell ⟨gh, 0, none⟩ (.string xm) = W1 at *
    generalize W0.heap.size = gxxm at *
    clear W0
    rename World => W0
    have hMS := hM3
    clear hM3
    have hMu := hMS.up (ba1 W0 (.cells #[.string ⟨#[47]⟩, .string ⟨#[47, 97, 47, 98]⟩, .string ⟨#[47, 97, 63, 120, 61, 49]⟩, .string ⟨#[42]⟩, .string ⟨#[47, 37, 52, 49]⟩] 9))
    have bl := Box.new W0 9 #[.string ⟨#[47]⟩, .string ⟨#[47, 97, 47, 98]⟩, .string ⟨#[47, 97, 63, 120, 61, 49]⟩, .string ⟨#[42]⟩, .string ⟨#[47, 37, 52, 49]⟩]
    have hlt0 := hMS.le
    go_wp2_with fail
    refine (HPM.out _ _ _ _ _ _ _ _ _ _ _ hMu (by decide) 5 (by decide) (by decide)).mono ?_
    rintro e w2 ⟨p, hp, rfl, hM2, hk2⟩
    obtain ⟨xt, hxtm, hxc⟩ := lit_cell (xs := lsT) (hk2 _ _ _ bl (by have := hMS.o1; have := hMS.o2; omega)) (p := p) hp
    have Hxt := Lib.hid hxtm
    have hpi : (p : Int) < 5 := by omega
    have hpz : (0 : Int) ≤ (p : Int) := by omega
    have hc := hM2.hb.c 1 rfl
    have hfz := hM2.hb.f 1
    have hM3 : MS w (w2.setCell ⟨gh, 1, none⟩ (.string xt)) gm gr gh A L c _ xm xt 0 ⟨#[]⟩ (1 - (p0 : Int)) ⟨none, 0, 0⟩ [] := hM2.setH 1 (.string xt) (by simp)
    clear hMS hMu bl hM2 hk2 hlt0 hxtm
    go_upto_region 7 with fail
    clear hc hfz hxc hpi hpz
    generalize w2.setCell ⟨gh, 1, none⟩ (.string xt) = W1 at *
    generalize W0.heap.size = gxxt at *
    clear W0
    rename World => W0
    have hMS := hM3
    clear hM3
    obtain ⟨m, t, st, r, hMS, HGF⟩ : ∃ m t st r, MS w W0 gm gr gh A L c (1 + 1 + 1) m t st r (1 - (p0 : Int)) ⟨none, 0, 0⟩ [] ∧ Hid (GoodF false m t st r) := ⟨_, _, _, _, hMS, Lib.hid (goodF_req Hxm.out Hxt.out)⟩
  all_goals
    go_wp2_with fail
    refine (HPM.out _ _ _ _ _ _ _ _ _ _ _ hMS (by decide) 7 (by decide) (by decide)).mono ?_
    rintro e w2 ⟨p, hp, rfl, hM2, _⟩
    have HM2 := Lib.hid hM2
    clear hMS hM2
    go_wp2_with fail
    go_loopw [6] (fun i wr => ∃ (k : Nat) (O : Sli) (fs : List Fd), k + fs.length ≤ 6 ∧ O.n = fs.length ∧ i = .int .i64 (k : Int) ∧ Hid (GoodL fs) ∧ Hid (MS w wr gm gr gh A L c (10 + 2 * fs.length) m t st r (1 - (p0 : Int)) O fs)) (fun i _ => (intOf i).toNat)
    case atStart => exact ⟨p, ⟨none, 0, 0⟩, [], by simp only [List.length_nil]; omega, rfl, rfl, Lib.hid (fun f hf => by cases hf), Lib.hid (HM2.out.mono (by decide))⟩
    case round =>
      obtain ⟨k, O, fs, hk, hO, rfl, HGL, HM⟩ := hrel
      obtain ⟨OA, On, Oc⟩ := O
      simp only at hO
      obtain ⟨fl, hfl⟩ : ∃ n, fs.length = n := ⟨_, rfl⟩
      rw [hfl] at hk hO HM
      subst hO
      have HFL := Lib.hid hfl
      clear hfl
      by_cases hk0 : 0 < k
      · have hki : (0 : Int) < (k : Int) := by omega
        have hMu := HM.out.up (ba1 wr (.cells #[.string ⟨#[72, 111, 115, 116]⟩, .string ⟨#[67, 111, 110, 116, 101, 110, 116, 45, 76, 101, 110, 103, 116, 104]⟩, .string ⟨#[84, 114, 97, 110, 115, 102, 101, 114, 45, 69, 110, 99, 111, 100, 105, 110, 103]⟩, .string ⟨#[67, 111, 110, 110, 101, 99, 116, 105, 111, 110]⟩, .string ⟨#[67, 111, 111, 107, 105, 101]⟩, .string ⟨#[86, 97, 114, 121]⟩, .string ⟨#[65]⟩, .string ⟨#[97, 99, 99, 101, 112, 116]⟩, .string ⟨#[82, 97, 110, 103, 101]⟩, .string ⟨#[67, 97, 99, 104, 101, 45, 67, 111, 110, 116, 114, 111, 108]⟩, .string ⟨#[65, 117, 116, 104, 111, 114, 105, 122, 97, 116, 105, 111, 110]⟩, .string ⟨#[88, 45, 70, 111, 114, 119, 97, 114, 100, 101, 100, 45, 70, 111, 114]⟩, .string ⟨#[75, 101, 101, 112, 45, 65, 108, 105, 118, 101]⟩] 9))
        have bl := Box.new wr 9 #[.string ⟨#[72, 111, 115, 116]⟩, .string ⟨#[67, 111, 110, 116, 101, 110, 116, 45, 76, 101, 110, 103, 116, 104]⟩, .string ⟨#[84, 114, 97, 110, 115, 102, 101, 114, 45, 69, 110, 99, 111, 100, 105, 110, 103]⟩, .string ⟨#[67, 111, 110, 110, 101, 99, 116, 105, 111, 110]⟩, .string ⟨#[67, 111, 111, 107, 105, 101]⟩, .string ⟨#[86, 97, 114, 121]⟩, .string ⟨#[65]⟩, .string ⟨#[97, 99, 99, 101, 112, 116]⟩, .string ⟨#[82, 97, 110, 103, 101]⟩, .string ⟨#[67, 97, 99, 104, 101, 45, 67, 111, 110, 116, 114, 111, 108]⟩, .string ⟨#[65, 117, 116, 104, 111, 114, 105, 122, 97, 116, 105, 111, 110]⟩, .string ⟨#[88, 45, 70, 111, 114, 119, 97, 114, 100, 101, 100, 45, 70, 111, 114]⟩, .string ⟨#[75, 101, 101, 112, 45, 65, 108, 105, 118, 101]⟩]
        have hlt0 := HM.out.le
        have ho1 := HM.out.o1
        have ho2 := HM.out.o2
        go_wp2_with fail
        refine (HPM.out _ _ _ _ _ _ _ _ _ _ _ hMu (by omega) 13 (by decide) (by decide)).mono ?_
        rintro e w3 ⟨p3, hp3, rfl, hM3, hk3⟩
        obtain ⟨x, hxm, hxc⟩ := lit_cell (xs := lsN) (hk3 _ _ _ bl (by omega)) (p := p3) hp3
        have HXN := Lib.hid (lsN_ok x hxm)
        have hpi : (p3 : Int) < 13 := by omega
        have hpz : (0 : Int) ≤ (p3 : Int) := by omega
        clear hMu bl hk3 HM hxm
        have hMv := hM3.up (ba1 w3 (.cells #[.string ⟨#[]⟩, .string ⟨#[51]⟩, .string ⟨#[99, 104, 117, 110, 107, 101, 100]⟩, .string ⟨#[99, 108, 111, 115, 101]⟩, .string ⟨#[107, 101, 101, 112, 45, 97, 108, 105, 118, 101, 44, 32, 65]⟩, .string ⟨#[97, 44, 32, 98]⟩, .string ⟨#[110, 111, 45, 115, 116, 111, 114, 101]⟩, .string ⟨#[48]⟩, .string ⟨#[120]⟩, .string ⟨#[65, 99, 99, 101, 112, 116]⟩, .string ⟨#[97, 99, 99, 101, 112, 116, 44, 32, 65]⟩] 9))
        have bv := Box.new w3 9 #[.string ⟨#[]⟩, .string ⟨#[51]⟩, .string ⟨#[99, 104, 117, 110, 107, 101, 100]⟩, .string ⟨#[99, 108, 111, 115, 101]⟩, .string ⟨#[107, 101, 101, 112, 45, 97, 108, 105, 118, 101, 44, 32, 65]⟩, .string ⟨#[97, 44, 32, 98]⟩, .string ⟨#[110, 111, 45, 115, 116, 111, 114, 101]⟩, .string ⟨#[48]⟩, .string ⟨#[120]⟩, .string ⟨#[65, 99, 99, 101, 112, 116]⟩, .string ⟨#[97, 99, 99, 101, 112, 116, 44, 32, 65]⟩]
        have hlt3 := hM3.le
        go_wp2_with fail
        refine (HPM.out _ _ _ _ _ _ _ _ _ _ _ hMv (by omega) 11 (by decide) (by decide)).mono ?_
        rintro e w4 ⟨p4, hp4, rfl, hM4, hk4⟩
        obtain ⟨y, hym, hyc⟩ := lit_cell (xs := lsV) (hk4 _ _ _ bv (by omega)) (p := p4) hp4
        have HYV := Lib.hid (lsV_ok y hym)
        have hqi : (p4 : Int) < 11 := by omega
        have hqz : (0 : Int) ≤ (p4 : Int) := by omega
        clear hMv bv hk4 hM3 hym hxc
        have HM5 := Lib.hid (hM4.up (ba1 w4 (.cells #[.string x, .string y] 40)))
        have HSrc := Lib.hid (src_one w4 40 (fvs [(x, y)]) 1 2 rfl)
        have hBw : gh + 1 ≤ (w4.alloc (.cells #[.string x, .string y] 40)).heap.size := HM5.out.le
        have d5 := hM4.hb.c 5 rfl
        clear hM4
        go_wp2_with (at_builtin; refine wpList_app _ rfl _ _ 27 rfl (gh + 1) 40 i32 _ 2 32 (by decide) Tryz.underlying27 hi hz0 hz1 hz2 rfl (.slice OA On Oc) On (fvs fs) rfl HM5.out.row (some ⟨w4.heap.size, 0, none⟩) 1 1 (fvs [(x, y)]) rfl HSrc.out (fvs_one _) ?_ ?_ hBw (On + 1) rfl ?_; (unfold maxLen; omega); omega; intro A' c' w5 h1 h2 h3; refine Hid.out ?_)
        obtain ⟨hP3, d6, e6⟩ := HM5.out.app (fs' := fs ++ [(x, y)]) (by rw [fvs_app]; exact h1) h2
        have HO3 := Lib.hid (hP3.mono (B' := 10 + 2 * (On + 1)) (by omega))
        clear h1 h2 h3 HM5 HSrc hP3 d5
        refine Lib.hid ?_
        go_wp2
        go_roundw
        case rel =>
          refine ⟨k - 1, ⟨A', On + 1, c'⟩, fs ++ [(x, y)], ?_, ?_, by go_num, Lib.hid ?_, ?_⟩
          · rw [List.length_append, HFL.out]; simp only [List.length_cons, List.length_nil]; omega
          · rw [List.length_append, HFL.out]; rfl
          · intro f hf
            rcases List.mem_append.1 hf with hf | hf
            · exact HGL.out f hf
            · simp only [List.mem_cons, List.not_mem_nil, or_false] at hf
              subst hf
              exact ⟨HXN.out.1, HYV.out.1, HXN.out.2, HYV.out.2⟩
          · rw [List.length_append, HFL.out]; exact HO3
        case measure => simp [intOf]; omega
      · obtain rfl : k = 0 := by omega
        have HH := Lib.hid (goodH_of HGF.out hp0 (by rw [HFL.out]; omega) HGL.out)
        have ho1 := HM.out.o1
        have ho2 := HM.out.o2
        have hbase := Row.base HM.out.row
        simp only at hbase
        have HFr : Hid (∀ ad, OA = some ad → gm < ad.block) := Lib.hid (fun ad h => by have := hbase ad h; omega)
        have HF6 := Lib.hid (fun u0 u1 u2 u3 u4 u5 => Fs.set6 HM.out.row.fs (g := gr) (fun ad h => by have := hbase ad h; omega) u0 u1 u2 u3 u4 u5)
        have bg := HM.out.rb
        have hbw := HM.out.low
        obtain ⟨i0, i1, i2, i3, i4, i5⟩ := HM.out.hb.six
        clear hbase
        have HQ := Lib.hid (bg.set6 (.string m) (.string t) (.int .i64 st) (.string r) (.int .i64 (1 - (p0 : Int))) (.slice OA On Oc)).six
        have HW := Lib.hid (below_set6 hbw (g := gr) (Nat.le_of_lt ho1) (.string m) (.string t) (.int .i64 st) (.string r) (.int .i64 (1 - (p0 : Int))) (.slice OA On Oc))
        obtain ⟨k0, k1, k2, k3, k4, k5⟩ := bg.six
        obtain ⟨f0, f1, f2, f3, f4, f5⟩ := bg.sixf
        go_wp2
        obtain ⟨q0, q1, q2, q3, q4, q5⟩ := HQ.out
        refine bodyPost_ret (v := .agg #[.string m, .string t, .int .i64 st, .string r, .int .i64 (1 - (p0 : Int)), .slice OA On Oc]) (by simp [results, Tryz.results30, go_sem, q0, q1, q2, q3, q4, q5]) rfl ?_
        exact ⟨_, _, _, _, _, ⟨OA, On, Oc⟩, fs, rfl, HH.out, HF6.out _ _ _ _ _ _, HFr.out, HW.out⟩
end Go.Proofs.YtdlihfbaepjliaaGreatDoor
