/-
  The walk of field's own Get.
-/
import Derived.Test.YtdlihfbaepjliaaGreatDoorJOwnA
import Derived.Test.YtdlihfbaepjliaaGreatDoorJRefI
import Derived.Test.YtdlihfbaepjliaaGreatDoorProg
import Derived.Lib.SlTrimSet
import Derived.WalkKit
import Derived.Lib.Split
import Derived.WalkSpells
import Derived.WalkLawsBesides
import Derived.WalkSmall
import Derived.Lib.Hide
import Derived.IntWalk
import Derived.BigQuiet
import Derived.Laws.OwnMore
import Derived.Deep.AppendLies
import Derived.Deep.RegionLaw
import Derived.Deep.Upon
import Derived.Deep.DeepCutAuto
import Derived.Lib.IndexLaws
import Derived.Shelf.LaysM
import Derived.Shelf.Small.Strs
import Derived.Shelf.Small.Wraps
import Derived.Shelf.Strings.Search1
import Derived.Shelf.Strings.Search2
import Derived.Shelf.Strings.SlTrimAscii
import Derived.Shelf.Strings.Split
import Derived.Shelf.Strings.Prefix
import Derived.Shelf.Strconv.Itoa4
import Derived.Lib.SmallJoins
import Derived.Lib.LaidTab
import Derived.Lib.AppendIntMem
import Derived.Lib.IndexAny
import Derived.RangeFuncNested
import Derived.RangeFuncBound
import Derived.RangeFuncCalls
import Derived.RangeFuncLeaves
import Derived.Deep.RegionHeld3
import Derived.Shelf.Abstract
import Derived.Shelf.RegionOpen
import Derived.OwnWalkIn
import Derived.TacticsInMore
import Derived.LoopNIn
import Derived.LoopIn
import Derived.Maps.AppendAt
import Derived.Test.YtdlihfbaepjliaaGreatDoorJHdC
namespace Go.Proofs.YtdlihfbaepjliaaGreatDoor
open Go.RowKit


set_option maxRecDepth 100000 in
set_option maxHeartbeats 4000000 in
theorem get_any (L : Sli) (fs : List Fd) (name : ByteArray) (w : World) (hL : Fs w L fs) (hn : L.n ≤ 4096) (hf : ∀ f ∈ fs, f.1.size ≤ 4096) (hm : name.size ≤ 4096) : Calls Tryz.prog 165 #[L.v, .string name] w (SsEnds (getL fs name) w) := by
  obtain ⟨i9, hi, hz0, hz1, hz2⟩ := info_parts info9
  have HF := Lib.hid hf
  have HL := Lib.hid hL
  obtain ⟨A, n, c⟩ := L
  simp only [Sli.v] at hn ⊢
  have hlen : Hid (fs.length = n) := Lib.hid hL.len
  clear hf hL
  go_enter Tryz.func165, Tryz.ntmps165
  go_wp2_with fail
  go_loopw [10, 5] (fun i o wr => ∃ (k : Nat) (O : Sli), k ≤ n ∧ O.n ≤ k ∧ i = .int .i64 (k : Int) ∧ o = .slice O.A O.n O.c ∧ Hid (Out 9 1 w wr O (svs (getL (fs.take k) name)))) (fun i _ _ => n - (intOf i).toNat)
  case atStart => exact ⟨0, ⟨none, 0, 0⟩, by omega, Nat.le_refl _, rfl, rfl, Lib.hid (Out.nil _ _ _ _ (Below.refl _ _))⟩
  case round =>
    obtain ⟨k, O, hk, hOn, rfl, rfl, HO⟩ := hrel
    by_cases hlt : k < n
    · obtain ⟨b, o, x, y, hA, hb, hx, c1, d1⟩ := (HL.out.up HO.out.hb).cell (k := k) hlt
      simp only at hA
      subst hA
      have hxs := HF.out _ (List.mem_of_getElem? hx)
      have HM := Lib.hid (fun W => match_any x name hxs hm W)
      have HS := Lib.hid (getL_succ (name := name) hx)
      clear hx hxs
      have hki : (k : Int) < (n : Int) := by omega
      have hk0 : (0 : Int) ≤ (k : Int) := by omega
      go_wp2_with fail
      refine (HM.out _).mono ?_
      rintro e w1 ⟨rfl, hb1⟩
      have d2 : w1.cell? ⟨wr.heap.size, 1, none⟩ = some (.string y) := ((Box.new wr 40 #[.string x, .string y]).up hb1).c 1 rfl
      have HO2 := Lib.hid (HO.out.up (bon (ba1 wr (.cells #[.string x, .string y] 40)) hb1))
      clear HO c1 d1 hb1
      generalize wr.heap.size = gf at *
      by_cases hq : lowerL (dl x) = lowerL (dl name)
      · have HS2 : Hid (getL (fs.take (k + 1)) name = getL (fs.take k) name ++ [y]) := Lib.hid (by rw [HS.out, if_pos hq])
        rw [decide_eq_true hq]
        clear hq HS HM
        have HSrc := Lib.hid (src_one w1 9 (svs [y]) 1 1 rfl)
        have HO3 := Lib.hid (HO2.out.up (ba1 w1 (.cells #[.string y] 9)))
        have hBw : w.heap.size ≤ (w1.alloc (.cells #[.string y] 9)).heap.size := HO3.out.le
        clear HO2
        go_wp2_with (at_builtin; refine wpList_app _ rfl _ _ 57 rfl w.heap.size 9 i9 _ 1 16 (by decide) Tryz.underlying57 hi hz0 hz1 hz2 rfl (.slice O.A O.n O.c) O.n (svs (getL (fs.take k) name)) rfl HO3.out.row (some ⟨w1.heap.size, 0, none⟩) 1 1 (svs [y]) rfl HSrc.out (svs_one _) ?_ ?_ hBw (O.n + 1) rfl ?_; (unfold maxLen; omega); omega; intro A' c' w3 h1 h2 h3; refine Hid.out ?_)
        have HO4 := Lib.hid (HO3.out.app (cs' := svs (getL (fs.take (k + 1)) name)) (by rw [HS2.out, svs, List.map_append]; exact h1) h2)
        clear h1 h2 h3 HO3 HSrc
        refine Lib.hid ?_
        go_wp2
        go_roundw
        case rel => exact ⟨k + 1, ⟨A', O.n + 1, c'⟩, by omega, by simp only; omega, by go_num, rfl, HO4⟩
        case measure => simp [intOf]; omega
      · have HS2 : Hid (getL (fs.take (k + 1)) name = getL (fs.take k) name) := Lib.hid (by rw [HS.out, if_neg hq])
        rw [decide_eq_false hq]
        clear hq HS HM
        go_wp2
        go_roundw
        case rel => exact ⟨k + 1, O, by omega, by omega, by go_num, rfl, by rw [HS2.out]; exact HO2⟩
        case measure => simp [intOf]; omega
    · obtain rfl : k = n := by omega
      have HE : Hid (fs.take k = fs) := Lib.hid (List.take_of_length_le (by rw [hlen.out]; exact Nat.le_refl _))
      rw [HE.out] at HO
      go_wp2
      go_ret
      exact ⟨O, rfl, HO.out.row.ss, HO.out.hb⟩

end Go.Proofs.YtdlihfbaepjliaaGreatDoor

/-
  The walks of frame's own chunked, sized and fromFields.
-/
namespace Go.Proofs.YtdlihfbaepjliaaGreatDoor
open Go.RowKit

set_option maxRecDepth 100000 in
set_option maxHeartbeats 2000000 in
theorem sized_any (T : Sli) (t : List ByteArray) (w : World) (hT : Ss w T t) (hf : ∀ x ∈ t, x.size ≤ 4096) (h0 : 1 ≤ T.n) : Calls Tryz.prog 167 #[.slice T.A T.n T.c] w (FrEnds (sizN t) w) := by
  obtain ⟨A, n, c⟩ := T
  have hlen := hT.len
  simp only at hlen ⊢
  have hb0 := ba1 w (.cells #[.int .i64 0, .int .i64 0] 24)
  by_cases h1 : n = 1
  · subst h1
    obtain ⟨b, o, x, hA, hb, hx, c1⟩ := (hT.up hb0).cell (k := 0) Nat.zero_lt_one
    rw [Nat.add_zero] at c1
    simp only at hA
    subst hA
    have hxs := hf x (List.mem_of_getElem? hx)
    have HE : Hid (sizN t = lenN (dl x)) := Lib.hid (by rw [sizN, if_pos hlen, hd1_of hx])
    have HP := Lib.hid (fun W => Nm.parse_any x 10 W (by unfold maxLen; omega))
    clear hT hf hx hlen h0
    unfold lenN at HE
    obtain ⟨p, hp⟩ : ∃ p, parseN (dl x) 10 = p := ⟨_, rfl⟩
    rw [hp] at HE
    have HP2 : Hid (∀ W, Calls Tryz.prog 163 #[.string x, .int .i64 10] W fun e w' => e = .returned (.tuple #[.int .i64 p.1, .int .i64 p.2]) ∧ w' = W) := Lib.hid (fun W => by rw [← hp]; exact HP.out W)
    clear hp HP
    obtain ⟨v, er⟩ := p
    simp only at HE HP2
    go_enter Tryz.func167, Tryz.ntmps167
    go_wp2_with fail
    have bf := Box.new w 24 #[.int .i64 0, .int .i64 0]
    obtain ⟨g, hg⟩ : ∃ g, w.heap.size = g := ⟨_, rfl⟩
    rw [hg] at bf ⊢
    have HG : Hid (w.heap.size ≤ g) := Lib.hid (by omega)
    have hbw := Lib.hid hb0
    clear hg hb0
    generalize w.alloc (.cells #[.int .i64 0, .int .i64 0] 24) = W0 at *
    refine (HP2.out _).mono ?_
    rintro e w1 ⟨rfl, rfl⟩
    by_cases e1 : er = 1
    · have HV : Hid (sizN t = (0, 0, 22)) := Lib.hid (by rw [HE.out, if_pos e1])
      subst e1
      have HQ := Lib.hid (Fr2 (bf.set2 (.int .i64 (0)) (.int .i64 (0))))
      have HW := Lib.hid (below_set2 hbw.out (g := g) HG.out (.int .i64 (0)) (.int .i64 (0)))
      obtain ⟨k0, k1, f0, f1⟩ := Fr2 bf
      go_wp2
      obtain ⟨q0, q1, _, _⟩ := HQ.out
      refine bodyPost_ret (v := .tuple #[.agg #[.int .i64 (0), .int .i64 (0)], .int .i64 (22)]) (by simp [results, Tryz.results167, go_sem, q0, q1]) rfl ?_
      exact ⟨ret_fr HV.out, HW.out⟩
    · have t1 : (er == 1) = false := beq_eq_false_iff_ne.2 e1
      by_cases e0 : er = 0
      · subst e0
        by_cases hv : 4000 < v
        · have HV : Hid (sizN t = (0, 0, 2)) := Lib.hid (by rw [HE.out, if_neg e1, if_pos (.inr hv)])
          clear e1 t1
          have HQ := Lib.hid (Fr2 (bf.set2 (.int .i64 (0)) (.int .i64 (0))))
          have HW := Lib.hid (below_set2 hbw.out (g := g) HG.out (.int .i64 (0)) (.int .i64 (0)))
          obtain ⟨k0, k1, f0, f1⟩ := Fr2 bf
          go_wp2
          obtain ⟨q0, q1, _, _⟩ := HQ.out
          refine bodyPost_ret (v := .tuple #[.agg #[.int .i64 (0), .int .i64 (0)], .int .i64 (2)]) (by simp [results, Tryz.results167, go_sem, q0, q1]) rfl ?_
          exact ⟨ret_fr HV.out, HW.out⟩
        · have HV : Hid (sizN t = (2, v, 0)) := Lib.hid (by rw [HE.out, if_neg e1, if_neg (by simp; omega)])
          clear e1 t1
          have HQ := Lib.hid (Fr2 (bf.set2 (.int .i64 (2)) (.int .i64 (v))))
          have HW := Lib.hid (below_set2 hbw.out (g := g) HG.out (.int .i64 (2)) (.int .i64 (v)))
          obtain ⟨k0, k1, f0, f1⟩ := Fr2 bf
          go_wp2
          obtain ⟨q0, q1, _, _⟩ := HQ.out
          refine bodyPost_ret (v := .tuple #[.agg #[.int .i64 (2), .int .i64 (v)], .int .i64 (0)]) (by simp [results, Tryz.results167, go_sem, q0, q1]) rfl ?_
          exact ⟨ret_fr HV.out, HW.out⟩
      · have HV : Hid (sizN t = (0, 0, 2)) := Lib.hid (by rw [HE.out, if_neg e1, if_pos (.inl e0)])
        have t0 : (er != 0) = true := bne_iff_ne.2 e0
        have HQ := Lib.hid (Fr2 (bf.set2 (.int .i64 (0)) (.int .i64 (0))))
        have HW := Lib.hid (below_set2 hbw.out (g := g) HG.out (.int .i64 (0)) (.int .i64 (0)))
        obtain ⟨k0, k1, f0, f1⟩ := Fr2 bf
        go_wp2
        obtain ⟨q0, q1, _, _⟩ := HQ.out
        refine bodyPost_ret (v := .tuple #[.agg #[.int .i64 (0), .int .i64 (0)], .int .i64 (2)]) (by simp [results, Tryz.results167, go_sem, q0, q1]) rfl ?_
        exact ⟨ret_fr HV.out, HW.out⟩
  · have HV : Hid (sizN t = (0, 0, 22)) := Lib.hid (by rw [sizN, if_neg (by omega)])
    have t1 : (1 : Int) < (n : Int) := by simp only at h0; omega
    clear hT hf hlen h1
    go_enter Tryz.func167, Tryz.ntmps167
    go_wp2
    obtain ⟨q0, q1, _, _⟩ := Fr2 (Box.new w 24 #[.int .i64 0, .int .i64 0])
    refine bodyPost_ret (v := .tuple #[.agg #[.int .i64 0, .int .i64 0], .int .i64 22]) (by simp [results, Tryz.results167, go_sem, q0, q1]) rfl ?_
    exact ⟨ret_fr HV.out, hb0⟩

set_option maxRecDepth 100000 in
set_option maxHeartbeats 2000000 in
theorem chunked_any (T : Sli) (t : List ByteArray) (w : World) (hT : Ss w T t) (hf : ∀ x ∈ t, x.size ≤ 4096) (h0 : 1 ≤ T.n) : Calls Tryz.prog 166 #[.slice T.A T.n T.c] w (FrEnds (chunkN t) w) := by
  obtain ⟨A, n, c⟩ := T
  have hlen := hT.len
  simp only at hlen h0 ⊢
  have hb0 := ba1 w (.cells #[.int .i64 0, .int .i64 0] 24)
  by_cases h1 : n = 1
  · subst h1
    obtain ⟨b, o, x, hA, hb, hx, c1⟩ := (hT.up hb0).cell (k := 0) Nat.zero_lt_one
    rw [Nat.add_zero] at c1
    simp only at hA
    subst hA
    have HLo := Lib.hid (fun W => lower_any x (hf x (List.mem_of_getElem? hx)) W)
    have HX : Hid (chunkN t = if lowerL (dl x) = chkB then (3, 0, 0) else (0, 0, 22)) := Lib.hid (by
      rw [chunkN, hd1_of hx, hlen]
      simp)
    clear hT hf hx hlen h0
    go_enter Tryz.func166, Tryz.ntmps166
    go_wp2_with fail
    have bf := Box.new w 24 #[.int .i64 0, .int .i64 0]
    obtain ⟨g, hg⟩ : ∃ g, w.heap.size = g := ⟨_, rfl⟩
    rw [hg] at bf ⊢
    have HG : Hid (w.heap.size ≤ g) := Lib.hid (by omega)
    clear hg
    generalize w.alloc (.cells #[.int .i64 0, .int .i64 0] 24) = W0 at *
    refine (HLo.out _).mono ?_
    rintro e w3 ⟨y, rfl, hy, hb3⟩
    have bf3 := bf.up hb3
    have hbw3 := Lib.hid (bon hb0 hb3)
    clear bf hb0 hb3 c1
    by_cases hq : y = ⟨#[99, 104, 117, 110, 107, 101, 100]⟩
    · have HV : Hid (chunkN t = (3, 0, 0)) := Lib.hid (by rw [HX.out, if_pos (by rw [← hy, hq]; rfl)])
      subst hq
      clear hy HX
      have HQ := Lib.hid (Fr2 (bf3.set2 (.int .i64 (3)) (.int .i64 (0))))
      have HW := Lib.hid (below_set2 hbw3.out (g := g) HG.out (.int .i64 (3)) (.int .i64 (0)))
      obtain ⟨k0, k1, f0, f1⟩ := Fr2 bf3
      go_wp2
      obtain ⟨q0, q1, _, _⟩ := HQ.out
      refine bodyPost_ret (v := .tuple #[.agg #[.int .i64 (3), .int .i64 (0)], .int .i64 (0)]) (by simp [results, Tryz.results166, go_sem, q0, q1]) rfl ?_
      exact ⟨ret_fr HV.out, HW.out⟩
    · have HV : Hid (chunkN t = (0, 0, 22)) := Lib.hid (by rw [HX.out, if_neg (fun h : lowerL (dl x) = chkB => hq (dl_inj (hy.trans h)))])
      have hrs : (y.toList == [99, 104, 117, 110, 107, 101, 100]) = false := tl_lit (fun h => hq (dl_inj h))
      clear hy HX
      have HQ := Lib.hid (Fr2 (bf3.set2 (.int .i64 (0)) (.int .i64 (0))))
      have HW := Lib.hid (below_set2 hbw3.out (g := g) HG.out (.int .i64 (0)) (.int .i64 (0)))
      obtain ⟨k0, k1, f0, f1⟩ := Fr2 bf3
      go_wp2
      obtain ⟨q0, q1, _, _⟩ := HQ.out
      refine bodyPost_ret (v := .tuple #[.agg #[.int .i64 (0), .int .i64 (0)], .int .i64 (22)]) (by simp [results, Tryz.results166, go_sem, q0, q1]) rfl ?_
      exact ⟨ret_fr HV.out, HW.out⟩
  · have HV : Hid (chunkN t = (0, 0, 22)) := Lib.hid (by rw [chunkN, if_neg (by omega)])
    have t1 : (1 : Int) < (n : Int) := by omega
    clear hT hf hlen h1 h0
    go_enter Tryz.func166, Tryz.ntmps166
    go_wp2
    obtain ⟨q0, q1, _, _⟩ := Fr2 (Box.new w 24 #[.int .i64 0, .int .i64 0])
    refine bodyPost_ret (v := .tuple #[.agg #[.int .i64 0, .int .i64 0], .int .i64 22]) (by simp [results, Tryz.results166, go_sem, q0, q1]) rfl ?_
    exact ⟨ret_fr HV.out, hb0⟩

section
variable (m t : ByteArray) (st : Int) (r : ByteArray) (mi : Int) (A : Option Addr) (n c : Nat) (fs : List Fd) (w : World) (hL : Fs w ⟨A, n, c⟩ fs) (hn : n ≤ 4096) (hf : Few fs)
include hL hn hf

set_option maxRecDepth 100000 in
set_option maxHeartbeats 4000000 in
theorem fromFields_any : Calls Tryz.prog 144 #[.agg #[.string m, .string t, .int .i64 st, .string r, .int .i64 mi, .slice A n c]] w (FrEnds (frH fs mi) w) := by
  have hb0 := ba2 w (.cells #[.string m, .string t, .int .i64 st, .string r, .int .i64 mi, .slice A n c] 29) (.cells #[.int .i64 0, .int .i64 0] 24)
  have HG1 := Lib.hid (get_any ⟨A, n, c⟩ fs ⟨#[84, 114, 97, 110, 115, 102, 101, 114, 45, 69, 110, 99, 111, 100, 105, 110, 103]⟩ _ (hL.up hb0) hn (fun f hfm => (hf f hfm).1) (by decide))
  have HG2 := Lib.hid (fun W (hW : Below w.heap.size w W) => get_any ⟨A, n, c⟩ fs ⟨#[67, 111, 110, 116, 101, 110, 116, 45, 76, 101, 110, 103, 116, 104]⟩ W (hL.up hW) hn (fun f hfm => (hf f hfm).1) (by decide))
  rw [getL_name (b := teN) (by decide +kernel)] at HG1
  have HG2' := Lib.hid (fun W hW => HG2.out W hW)
  clear HG2
  have HG2 : Hid (∀ W, Below w.heap.size w W → Calls Tryz.prog 165 #[Sli.v ⟨A, n, c⟩, .string ⟨#[67, 111, 110, 116, 101, 110, 116, 45, 76, 101, 110, 103, 116, 104]⟩] W (SsEnds (getL fs clN) W)) := Lib.hid (fun W hW => by have := HG2'.out W hW; rw [getL_name (b := clN) (by decide +kernel)] at this; exact this)
  clear HG2'
  have HF1 := Lib.hid (getL_few (a := teN) hf)
  have HF2 := Lib.hid (getL_few (a := clN) hf)
  have HD : Hid (frH fs mi = framedN (getL fs teN) (getL fs clN) mi) := Lib.hid rfl
  generalize getL fs teN = tt at *
  generalize getL fs clN = cc at *
  clear hL hf
  simp only [Sli.v] at HG1 HG2
  go_enter Tryz.func144, Tryz.ntmps144
  go_wp2_with fail
  have bh := (Box.new w 29 #[.string m, .string t, .int .i64 st, .string r, .int .i64 mi, .slice A n c]).alloc (.cells #[.int .i64 0, .int .i64 0] 24)
  have bf := Box.mk' (w.alloc (.cells #[.string m, .string t, .int .i64 st, .string r, .int .i64 mi, .slice A n c] 29)) 24 #[.int .i64 0, .int .i64 0] (w.heap.size + 1) (by simp)
  obtain ⟨g, hg⟩ : ∃ g, w.heap.size = g := ⟨_, rfl⟩
  rw [hg] at bh bf ⊢
  have HG : Hid (w.heap.size ≤ g + 1) := Lib.hid (by omega)
  clear hg
  generalize (w.alloc (.cells #[.string m, .string t, .int .i64 st, .string r, .int .i64 mi, .slice A n c] 29)).alloc (.cells #[.int .i64 0, .int .i64 0] 24) = W0 at *
  refine HG1.out.mono ?_
  rintro e w1 ⟨T, rfl, hT, hb1⟩
  have bh1 := bh.up hb1
  have bf1 := bf.up hb1
  have HW1 := Lib.hid (bon hb0 hb1)
  clear bh bf hb0 hb1 HG1
  obtain ⟨_, _, _, _, c4, c5⟩ := bh1.six
  go_wp2_with fail
  refine (HG2.out _ HW1.out).mono ?_
  rintro e w2 ⟨C, rfl, hC, hb2⟩
  have bh := bh1.up hb2
  have bf := bf1.up hb2
  have hT2 := hT.up hb2
  have hbw := Lib.hid (bon HW1.out hb2)
  clear bh1 bf1 hb2 hT HG2 HW1 c4 c5
  obtain ⟨_, _, _, _, c4, c5⟩ := bh.six
  obtain ⟨AT, nT, cT⟩ := T
  obtain ⟨AC, nC, cC⟩ := C
  have lT := hT2.len
  have lC := hC.len
  have zT := Nat.le_trans hT2.le.1 hT2.le.2
  have zC := Nat.le_trans hC.le.1 hC.le.2
  unfold maxLen at zT zC
  have HT := Lib.hid hT2
  have HC := Lib.hid hC
  simp only at lT lC zT zC
  have HLT := Lib.hid lT
  have HLC := Lib.hid lC
  unfold framedN at HD
  rw [lT, lC] at HD
  clear hT2 hC bh lT lC
  by_cases h0 : nT = 0
  · subst h0
    by_cases h1 : nC = 0
    · subst h1
      have HV : Hid (frH fs mi = (0, 0, 0)) := Lib.hid (by rw [HD.out]; rfl)
      have HQ := Lib.hid (Fr2 (bf.set2 (.int .i64 (0)) (.int .i64 (0))))
      have HW := Lib.hid (below_set2 hbw.out (g := g + 1) HG.out (.int .i64 (0)) (.int .i64 (0)))
      obtain ⟨k0, k1, f0, f1⟩ := Fr2 bf
      go_wp2
      obtain ⟨q0, q1, _, _⟩ := HQ.out
      refine bodyPost_ret (v := .tuple #[.agg #[.int .i64 (0), .int .i64 (0)], .int .i64 (0)]) (by simp [results, Tryz.results144, go_sem, q0, q1]) rfl ?_
      exact ⟨ret_fr HV.out, HW.out⟩
    · have h1i : (0 : Int) < (nC : Int) := by omega
      have HL := Lib.hid (sized_any ⟨AC, nC, cC⟩ cc w2 HC.out HF2.out (by simp only; omega))
      obtain ⟨q, hq⟩ : ∃ q, sizN cc = q := ⟨_, rfl⟩
      have HV : Hid (frH fs mi = q) := Lib.hid (by rw [HD.out, if_neg (by omega), if_pos (by omega), hq])
      rw [hq] at HL
      clear hq HD h1
      simp only at HL
      go_wp2_with fail
      refine HL.out.mono ?_
      rintro e w3 ⟨rfl, hb3⟩
      have bf3 := bf.up hb3
      have hbw3 := Lib.hid (bon hbw.out hb3)
      clear bf hbw hb3 c4 c5
      obtain ⟨a, b, d⟩ := q
      simp only
      have HQ := Lib.hid (Fr2 (bf3.set2 (.int .i64 (a)) (.int .i64 (b))))
      have HW := Lib.hid (below_set2 hbw3.out (g := g + 1) HG.out (.int .i64 (a)) (.int .i64 (b)))
      obtain ⟨k0, k1, f0, f1⟩ := Fr2 bf3
      go_wp2
      obtain ⟨q0, q1, _, _⟩ := HQ.out
      refine bodyPost_ret (v := .tuple #[.agg #[.int .i64 (a), .int .i64 (b)], .int .i64 (d)]) (by simp [results, Tryz.results144, go_sem, q0, q1]) rfl ?_
      exact ⟨ret_fr HV.out, HW.out⟩
  · have h0i : (0 : Int) < (nT : Int) := by omega
    by_cases h2 : nC = 0
    · subst h2
      by_cases hmi : mi = 0
      · have HV : Hid (frH fs mi = (0, 0, 22)) := Lib.hid (by rw [HD.out, if_pos (by omega), if_pos (.inr hmi)])
        subst hmi
        have HQ := Lib.hid (Fr2 (bf.set2 (.int .i64 (0)) (.int .i64 (0))))
        have HW := Lib.hid (below_set2 hbw.out (g := g + 1) HG.out (.int .i64 (0)) (.int .i64 (0)))
        obtain ⟨k0, k1, f0, f1⟩ := Fr2 bf
        go_wp2
        obtain ⟨q0, q1, _, _⟩ := HQ.out
        refine bodyPost_ret (v := .tuple #[.agg #[.int .i64 (0), .int .i64 (0)], .int .i64 (22)]) (by simp [results, Tryz.results144, go_sem, q0, q1]) rfl ?_
        exact ⟨ret_fr HV.out, HW.out⟩
      · have hmb : (mi == 0) = false := beq_eq_false_iff_ne.2 hmi
        have HL := Lib.hid (chunked_any ⟨AT, nT, cT⟩ tt w2 HT.out HF1.out (by simp only; omega))
        obtain ⟨q, hq⟩ : ∃ q, chunkN tt = q := ⟨_, rfl⟩
        have HV : Hid (frH fs mi = q) := Lib.hid (by rw [HD.out, if_pos (by omega), if_neg (by omega), hq])
        rw [hq] at HL
        clear hq HD hmi
        simp only at HL
        go_wp2_with fail
        refine HL.out.mono ?_
        rintro e w3 ⟨rfl, hb3⟩
        have bf3 := bf.up hb3
        have hbw3 := Lib.hid (bon hbw.out hb3)
        clear bf hbw hb3 c4 c5
        obtain ⟨a, b, d⟩ := q
        simp only
        have HQ := Lib.hid (Fr2 (bf3.set2 (.int .i64 (a)) (.int .i64 (b))))
        have HW := Lib.hid (below_set2 hbw3.out (g := g + 1) HG.out (.int .i64 (a)) (.int .i64 (b)))
        obtain ⟨k0, k1, f0, f1⟩ := Fr2 bf3
        go_wp2
        obtain ⟨q0, q1, _, _⟩ := HQ.out
        refine bodyPost_ret (v := .tuple #[.agg #[.int .i64 (a), .int .i64 (b)], .int .i64 (d)]) (by simp [results, Tryz.results144, go_sem, q0, q1]) rfl ?_
        exact ⟨ret_fr HV.out, HW.out⟩
    · have h2i : (0 : Int) < (nC : Int) := by omega
      have HV : Hid (frH fs mi = (0, 0, 22)) := Lib.hid (by rw [HD.out, if_pos (by omega), if_pos (.inl (by omega))])
      have HQ := Lib.hid (Fr2 (bf.set2 (.int .i64 (0)) (.int .i64 (0))))
      have HW := Lib.hid (below_set2 hbw.out (g := g + 1) HG.out (.int .i64 (0)) (.int .i64 (0)))
      obtain ⟨k0, k1, f0, f1⟩ := Fr2 bf
      go_wp2
      obtain ⟨q0, q1, _, _⟩ := HQ.out
      refine bodyPost_ret (v := .tuple #[.agg #[.int .i64 (0), .int .i64 (0)], .int .i64 (22)]) (by simp [results, Tryz.results144, go_sem, q0, q1]) rfl ?_
      exact ⟨ret_fr HV.out, HW.out⟩

end
end Go.Proofs.YtdlihfbaepjliaaGreatDoor

/-
  The walks of frame's own orElse, bare, Request and Answer.
-/
namespace Go.Proofs.YtdlihfbaepjliaaGreatDoor
open Go.RowKit

/-- f, or a frame of that kind -/
def orN (a b k : Int) : Int × Int := if a = 0 ∧ b = 0 then (k, 0) else (a, b)
set_option maxRecDepth 100000 in
set_option maxHeartbeats 2000000 in
theorem orElse_any (a b k : Int) (w : World) : Calls Tryz.prog 146 #[.agg #[.int .i64 a, .int .i64 b], .int .i64 k] w fun e w' => e = .returned (.agg #[.int .i64 (orN a b k).1, .int .i64 (orN a b k).2]) ∧ Below w.heap.size w w' := by
  obtain ⟨Q, hQ⟩ : ∃ Q, orN a b k = Q := ⟨_, rfl⟩
  rw [hQ]
  have HD := Lib.hid hQ.symm
  clear hQ
  by_cases hz : a = 0 ∧ b = 0
  · have HV : Hid (Q = (k, 0)) := Lib.hid (by rw [HD.out, orN, if_pos hz])
    obtain ⟨rfl, rfl⟩ := hz
    have hb := ba2 w (.cells #[.int .i64 0, .int .i64 0] 24) (.cells #[.int .i64 k, .int .i64 0] 24)
    obtain ⟨q0, q1, _, _⟩ := Fr2 (Box.mk' (w.alloc (.cells #[.int .i64 0, .int .i64 0] 24)) 24 #[.int .i64 k, .int .i64 0] (w.heap.size + 1) (by simp))
    go_enter Tryz.func146, Tryz.ntmps146
    go_wp2
    refine bodyPost_ret (v := .agg #[.int .i64 k, .int .i64 0]) (by simp [results, Tryz.results146, go_sem, q0, q1]) rfl ?_
    exact ⟨by rw [HV.out], hb⟩
  · have HV : Hid (Q = (a, b)) := Lib.hid (by rw [HD.out, orN, if_neg hz])
    have hb := ba2 w (.cells #[.int .i64 a, .int .i64 b] 24) (.cells #[.int .i64 a, .int .i64 b] 24)
    obtain ⟨q0, q1, _, _⟩ := Fr2 (Box.mk' (w.alloc (.cells #[.int .i64 a, .int .i64 b] 24)) 24 #[.int .i64 a, .int .i64 b] (w.heap.size + 1) (by simp))
    have hcase : (a == 0) = false ∨ ((a == 0) = true ∧ (b == 0) = false) := by
      by_cases ha : a = 0
      · exact .inr ⟨beq_iff_eq.2 ha, beq_eq_false_iff_ne.2 (fun hb => hz ⟨ha, hb⟩)⟩
      · exact .inl (beq_eq_false_iff_ne.2 ha)
    clear hz HD
    rcases hcase with h1 | ⟨h1, h2⟩
    all_goals
      go_enter Tryz.func146, Tryz.ntmps146
      go_wp2
      refine bodyPost_ret (v := .agg #[.int .i64 a, .int .i64 b]) (by simp [results, Tryz.results146, go_sem, q0, q1]) rfl ?_
      exact ⟨by rw [HV.out], hb⟩

set_option maxHeartbeats 2000000 in
theorem bare_any (st : Int) (mt : ByteArray) (w : World) : Calls Tryz.prog 145 #[.int .i64 st, .string mt] w fun e w' => e = .returned (.bool (bareB st (dl mt))) ∧ w' = w := by
  obtain ⟨bx, hbx⟩ : ∃ x, bareB st (dl mt) = x := ⟨_, rfl⟩
  rw [hbx]
  have hcase : (dl mt = [72, 69, 65, 68] ∧ bx = true) ∨ (dl mt ≠ [72, 69, 65, 68] ∧ st < 200 ∧ bx = true) ∨ (dl mt ≠ [72, 69, 65, 68] ∧ ¬ st < 200 ∧ st = 204 ∧ bx = true) ∨ (dl mt ≠ [72, 69, 65, 68] ∧ ¬ st < 200 ∧ ¬ st = 204 ∧ st = 304 ∧ bx = true) ∨ (dl mt ≠ [72, 69, 65, 68] ∧ ¬ st < 200 ∧ ¬ st = 204 ∧ ¬ st = 304 ∧ bx = false) := by
    rw [← hbx, bareB]
    by_cases h1 : dl mt = [72, 69, 65, 68]
    · simp [h1]
    · by_cases h2 : st < 200
      · simp [h1, h2]
      · by_cases h3 : st = 204
        · simp_all
        · by_cases h4 : st = 304
          · simp_all
          · simp_all
  clear hbx
  rcases hcase with ⟨h1, rfl⟩ | ⟨h1, h2, rfl⟩ | ⟨h1, h2, h3, rfl⟩ | ⟨h1, h2, h3, h4, rfl⟩ | ⟨h1, h2, h3, h4, rfl⟩
  · obtain rfl : mt = ⟨#[72, 69, 65, 68]⟩ := dl_inj h1
    clear h1
    go_enter Tryz.func145, Tryz.ntmps145
    go_wp2
    go_ret
    exact ⟨by rfl, rfl⟩
  · have hrs : (mt.toList == [72, 69, 65, 68]) = false := tl_lit h1
    clear h1
    go_enter Tryz.func145, Tryz.ntmps145
    go_wp2
    go_ret
    exact ⟨by rfl, rfl⟩
  · have hrs : (mt.toList == [72, 69, 65, 68]) = false := tl_lit h1
    subst h3
    clear h1
    go_enter Tryz.func145, Tryz.ntmps145
    go_wp2
    go_ret
    exact ⟨by rfl, rfl⟩
  · have hrs : (mt.toList == [72, 69, 65, 68]) = false := tl_lit h1
    subst h4
    clear h1 h3
    go_enter Tryz.func145, Tryz.ntmps145
    go_wp2
    go_ret
    exact ⟨by rfl, rfl⟩
  · have hrs : (mt.toList == [72, 69, 65, 68]) = false := tl_lit h1
    have t3 : (st == 204) = false := beq_eq_false_iff_ne.2 h3
    have t4 : (st == 304) = false := beq_eq_false_iff_ne.2 h4
    clear h1
    go_enter Tryz.func145, Tryz.ntmps145
    go_wp2
    go_ret
    exact ⟨by rfl, rfl⟩

section
variable (m t : ByteArray) (st : Int) (r : ByteArray) (mi : Int) (A : Option Addr) (n c : Nat) (fs : List Fd) (w : World) (hm : m.size ≤ 4096) (ht : t.size ≤ 4096) (hr : r.size ≤ 4096) (hL : Fs w ⟨A, n, c⟩ fs) (hn : n ≤ 4096) (hf : Few fs)
include hm ht hr hL hn hf

set_option maxRecDepth 100000 in
set_option maxHeartbeats 4000000 in
theorem frequest_any : Calls Tryz.prog 130 #[.agg #[.string m, .string t, .int .i64 st, .string r, .int .i64 mi, .slice A n c]] w (FrEnds (reqF (rightB (hdOf m t st r mi fs) false) (frH fs mi)) w) := by
  have hb0 := ba2 w (.cells #[.string m, .string t, .int .i64 st, .string r, .int .i64 mi, .slice A n c] 29) (.cells #[.int .i64 0, .int .i64 0] 24)
  have HR := Lib.hid (right_any m t st r mi A n c fs false _ hm ht hr (hL.up hb0) hn hf)
  have HFm := Lib.hid (fun W (hW : Below w.heap.size w W) => fromFields_any m t st r mi A n c fs W (hL.up hW) hn hf)
  have HO := Lib.hid (frH_ok fs mi)
  obtain ⟨Q, hQ⟩ : ∃ Q, reqF (rightB (hdOf m t st r mi fs) false) (frH fs mi) = Q := ⟨_, rfl⟩
  rw [hQ]
  have HD := Lib.hid hQ.symm
  clear hQ
  generalize rightB (hdOf m t st r mi fs) false = bb at *
  generalize frH fs mi = q at *
  clear hm ht hr hL hf
  go_enter Tryz.func130, Tryz.ntmps130
  go_wp2_with fail
  have bh := (Box.new w 29 #[.string m, .string t, .int .i64 st, .string r, .int .i64 mi, .slice A n c]).alloc (.cells #[.int .i64 0, .int .i64 0] 24)
  have bf := Box.mk' (w.alloc (.cells #[.string m, .string t, .int .i64 st, .string r, .int .i64 mi, .slice A n c] 29)) 24 #[.int .i64 0, .int .i64 0] (w.heap.size + 1) (by simp)
  obtain ⟨g, hg⟩ : ∃ g, w.heap.size = g := ⟨_, rfl⟩
  rw [hg] at bh bf ⊢
  have HG : Hid (w.heap.size ≤ g + 1) := Lib.hid (by omega)
  clear hg
  generalize (w.alloc (.cells #[.string m, .string t, .int .i64 st, .string r, .int .i64 mi, .slice A n c] 29)).alloc (.cells #[.int .i64 0, .int .i64 0] 24) = W0 at *
  refine HR.out.mono ?_
  rintro e w1 ⟨rfl, hb1⟩
  have bh1 := bh.up hb1
  have bf1 := bf.up hb1
  have hbw1 := Lib.hid (bon hb0 hb1)
  clear bh bf hb0 hb1 HR
  obtain ⟨c0, c1, c2, c3, c4, c5⟩ := bh1.six
  cases bb with
  | false =>
    have HV : Hid (Q = (0, 0, 1)) := Lib.hid (by rw [HD.out]; rfl)
    have HQ := Lib.hid (Fr2 (bf1.set2 (.int .i64 (0)) (.int .i64 (0))))
    have HW := Lib.hid (below_set2 hbw1.out (g := g + 1) HG.out (.int .i64 (0)) (.int .i64 (0)))
    obtain ⟨k0, k1, f0, f1⟩ := Fr2 bf1
    go_wp2
    obtain ⟨q0, q1, _, _⟩ := HQ.out
    refine bodyPost_ret (v := .tuple #[.agg #[.int .i64 (0), .int .i64 (0)], .int .i64 (1)]) (by simp [results, Tryz.results130, go_sem, q0, q1]) rfl ?_
    exact ⟨ret_fr HV.out, HW.out⟩
  | true =>
    go_wp2_with fail
    refine (HFm.out _ hbw1.out).mono ?_
    rintro e w2 ⟨rfl, hb2⟩
    have bh2 := bh1.up hb2
    have bf2 := bf1.up hb2
    have hbw2 := Lib.hid (bon hbw1.out hb2)
    clear bh1 bf1 hbw1 hb2 HFm c0 c1 c2 c3 c4 c5
    obtain ⟨a, b, d⟩ := q
    simp only
    go_upto_region 4 with fail
    have bx := Box.new w2 24 #[.int .i64 a, .int .i64 b]
    have bh := bh2.alloc (.cells #[.int .i64 a, .int .i64 b] 24)
    have bf := bf2.alloc (.cells #[.int .i64 a, .int .i64 b] 24)
    have hbw := Lib.hid (bon hbw2.out (ba1 w2 (.cells #[.int .i64 a, .int .i64 b] 24)))
    obtain ⟨gx, hgx⟩ : ∃ gx, w2.heap.size = gx := ⟨_, rfl⟩
    have hlt := bf2.lt
    rw [hgx] at bx hlt ⊢
    have HGX : Hid (w.heap.size ≤ gx) := Lib.hid (by have := HG.out; omega)
    have hne : ¬ g + 1 = gx := by omega
    have hne2 : ¬ gx = g + 1 := by omega
    have hne3 : ¬ g = gx := by omega
    have hne4 : ¬ gx = g := by omega
    clear hgx hlt bh2 bf2 hbw2
    generalize w2.alloc (.cells #[.int .i64 a, .int .i64 b] 24) = W3 at *
    obtain ⟨c0, c1, c2, c3, c4, c5⟩ := bh.six
    obtain ⟨x0, x1, y0, y1⟩ := Fr2 bx
    have HO2 := HO.out
    unfold OkF at HO2
    simp only at HO2
    by_cases hd : d = 0
    · subst hd
      clear HO
      by_cases ha : a = 0
      · obtain rfl : b = 0 := by omega
        subst ha
        have HV : Hid (Q = (1, 0, 0)) := Lib.hid (by rw [HD.out]; rfl)
        clear HO2
        have HOr := Lib.hid (fun W => orElse_any (0) (0) 1 W)
        rw [show orN 0 0 1 = (1, 0) from rfl] at HOr
        go_wp2_with fail
        refine (HOr.out _).mono ?_
        rintro e w4 ⟨rfl, hb4⟩
        simp only
        have bf4 := bf.up hb4
        have hbw4 := Lib.hid (bon hbw.out hb4)
        clear bf hbw hb4 HOr c0 c1 c2 c3 c4 c5 x0 x1 y0 y1
        have HQ := Lib.hid (Fr2 (bf4.set2 (.int .i64 (1)) (.int .i64 (0))))
        have HW := Lib.hid (below_set2 hbw4.out (g := g + 1) HG.out (.int .i64 (1)) (.int .i64 (0)))
        obtain ⟨k0, k1, f0, f1⟩ := Fr2 bf4
        go_wp2
        obtain ⟨q0, q1, _, _⟩ := HQ.out
        refine bodyPost_ret (v := .tuple #[.agg #[.int .i64 (1), .int .i64 (0)], .int .i64 (0)]) (by simp [results, Tryz.results130, go_sem, q0, q1]) rfl ?_
        exact ⟨ret_fr HV.out, HW.out⟩
      · have HV : Hid (Q = (a, b, 0)) := Lib.hid (by rw [HD.out]; simp [reqF, ha])
        have hab : (a == 0) = false := beq_eq_false_iff_ne.2 ha
        clear HO2
        have HOr := Lib.hid (fun W => orElse_any (a) (b) 1 W)
        rw [show orN a b 1 = (a, b) from if_neg (fun h => ha h.1)] at HOr
        go_wp2_with fail
        refine (HOr.out _).mono ?_
        rintro e w4 ⟨rfl, hb4⟩
        simp only
        have bf4 := bf.up hb4
        have hbw4 := Lib.hid (bon hbw.out hb4)
        clear bf hbw hb4 HOr c0 c1 c2 c3 c4 c5 x0 x1 y0 y1
        have HQ := Lib.hid (Fr2 (bf4.set2 (.int .i64 (a)) (.int .i64 (b))))
        have HW := Lib.hid (below_set2 hbw4.out (g := g + 1) HG.out (.int .i64 (a)) (.int .i64 (b)))
        obtain ⟨k0, k1, f0, f1⟩ := Fr2 bf4
        go_wp2
        obtain ⟨q0, q1, _, _⟩ := HQ.out
        refine bodyPost_ret (v := .tuple #[.agg #[.int .i64 (a), .int .i64 (b)], .int .i64 (0)]) (by simp [results, Tryz.results130, go_sem, q0, q1]) rfl ?_
        exact ⟨ret_fr HV.out, HW.out⟩
    · obtain ⟨rfl, rfl⟩ : a = 0 ∧ b = 0 := by omega
      have HV : Hid (Q = (0, 0, d)) := Lib.hid (by rw [HD.out]; simp [reqF, hd])
      have hdb : (d == 0) = false := beq_eq_false_iff_ne.2 hd
      have hdc : (d != 0) = true := bne_iff_ne.2 hd
      clear HO HO2 hd
      have HQ := Lib.hid (Fr2 (bf.set2 (.int .i64 (0)) (.int .i64 (0))))
      have HW := Lib.hid (below_set2 hbw.out (g := g + 1) HG.out (.int .i64 (0)) (.int .i64 (0)))
      obtain ⟨k0, k1, f0, f1⟩ := Fr2 bf
      go_wp2
      obtain ⟨q0, q1, _, _⟩ := HQ.out
      refine bodyPost_ret (v := .tuple #[.agg #[.int .i64 (0), .int .i64 (0)], .int .i64 (d)]) (by simp [results, Tryz.results130, go_sem, q0, q1]) rfl ?_
      exact ⟨ret_fr HV.out, HW.out⟩

set_option maxRecDepth 100000 in
set_option maxHeartbeats 4000000 in
theorem fanswer_any (mt : ByteArray) : Calls Tryz.prog 129 #[.agg #[.string m, .string t, .int .i64 st, .string r, .int .i64 mi, .slice A n c], .string mt] w (FrEnds (ansF (rightB (hdOf m t st r mi fs) true) (bareB st (dl mt)) (frH fs mi)) w) := by
  have hb0 := ba2 w (.cells #[.string m, .string t, .int .i64 st, .string r, .int .i64 mi, .slice A n c] 29) (.cells #[.int .i64 0, .int .i64 0] 24)
  have HR := Lib.hid (right_any m t st r mi A n c fs true _ hm ht hr (hL.up hb0) hn hf)
  have HFm := Lib.hid (fun W (hW : Below w.heap.size w W) => fromFields_any m t st r mi A n c fs W (hL.up hW) hn hf)
  have HO := Lib.hid (frH_ok fs mi)
  obtain ⟨Q, hQ⟩ : ∃ Q, ansF (rightB (hdOf m t st r mi fs) true) (bareB st (dl mt)) (frH fs mi) = Q := ⟨_, rfl⟩
  rw [hQ]
  have HD := Lib.hid hQ.symm
  clear hQ
  generalize rightB (hdOf m t st r mi fs) true = bb at *
  generalize frH fs mi = q at *
  clear hm ht hr hL hf
  go_enter Tryz.func129, Tryz.ntmps129
  go_wp2_with fail
  have bh := (Box.new w 29 #[.string m, .string t, .int .i64 st, .string r, .int .i64 mi, .slice A n c]).alloc (.cells #[.int .i64 0, .int .i64 0] 24)
  have bf := Box.mk' (w.alloc (.cells #[.string m, .string t, .int .i64 st, .string r, .int .i64 mi, .slice A n c] 29)) 24 #[.int .i64 0, .int .i64 0] (w.heap.size + 1) (by simp)
  obtain ⟨g, hg⟩ : ∃ g, w.heap.size = g := ⟨_, rfl⟩
  rw [hg] at bh bf ⊢
  have HG : Hid (w.heap.size ≤ g + 1) := Lib.hid (by omega)
  clear hg
  generalize (w.alloc (.cells #[.string m, .string t, .int .i64 st, .string r, .int .i64 mi, .slice A n c] 29)).alloc (.cells #[.int .i64 0, .int .i64 0] 24) = W0 at *
  refine HR.out.mono ?_
  rintro e w1 ⟨rfl, hb1⟩
  have bh1 := bh.up hb1
  have bf1 := bf.up hb1
  have hbw1 := Lib.hid (bon hb0 hb1)
  clear bh bf hb0 hb1 HR
  obtain ⟨c0, c1, c2, c3, c4, c5⟩ := bh1.six
  cases bb with
  | false =>
    have HV : Hid (Q = (0, 0, 1)) := Lib.hid (by rw [HD.out]; rfl)
    have HQ := Lib.hid (Fr2 (bf1.set2 (.int .i64 (0)) (.int .i64 (0))))
    have HW := Lib.hid (below_set2 hbw1.out (g := g + 1) HG.out (.int .i64 (0)) (.int .i64 (0)))
    obtain ⟨k0, k1, f0, f1⟩ := Fr2 bf1
    go_wp2
    obtain ⟨q0, q1, _, _⟩ := HQ.out
    refine bodyPost_ret (v := .tuple #[.agg #[.int .i64 (0), .int .i64 (0)], .int .i64 (1)]) (by simp [results, Tryz.results129, go_sem, q0, q1]) rfl ?_
    exact ⟨ret_fr HV.out, HW.out⟩
  | true =>
    go_wp2_with fail
    refine (HFm.out _ hbw1.out).mono ?_
    rintro e w2 ⟨rfl, hb2⟩
    have bh2 := bh1.up hb2
    have bf2 := bf1.up hb2
    have hbw2 := Lib.hid (bon hbw1.out hb2)
    clear bh1 bf1 hbw1 hb2 HFm c0 c1 c2 c3 c4 c5
    obtain ⟨a, b, d⟩ := q
    simp only
    go_upto_region 4 with fail
    have bx := Box.new w2 24 #[.int .i64 a, .int .i64 b]
    have bh := bh2.alloc (.cells #[.int .i64 a, .int .i64 b] 24)
    have bf := bf2.alloc (.cells #[.int .i64 a, .int .i64 b] 24)
    have hbw := Lib.hid (bon hbw2.out (ba1 w2 (.cells #[.int .i64 a, .int .i64 b] 24)))
    obtain ⟨gx, hgx⟩ : ∃ gx, w2.heap.size = gx := ⟨_, rfl⟩
    have hlt := bf2.lt
    rw [hgx] at bx hlt ⊢
    have HGX : Hid (w.heap.size ≤ gx) := Lib.hid (by have := HG.out; omega)
    have hne : ¬ g + 1 = gx := by omega
    have hne2 : ¬ gx = g + 1 := by omega
    have hne3 : ¬ g = gx := by omega
    have hne4 : ¬ gx = g := by omega
    clear hgx hlt bh2 bf2 hbw2
    generalize w2.alloc (.cells #[.int .i64 a, .int .i64 b] 24) = W3 at *
    obtain ⟨c0, c1, c2, c3, c4, c5⟩ := bh.six
    obtain ⟨x0, x1, y0, y1⟩ := Fr2 bx
    have HO2 := HO.out
    unfold OkF at HO2
    simp only at HO2
    by_cases hd : d = 0
    · subst hd
      clear HO
      have HB := Lib.hid (fun W => bare_any st mt W)
      have HX := Lib.hid HD.out
      obtain ⟨bq, hbq⟩ : ∃ x, bareB st (dl mt) = x := ⟨_, rfl⟩
      rw [hbq] at HB HX
      clear hbq HD
      go_wp2_with fail
      refine (HB.out _).mono ?_
      rintro e w3 ⟨rfl, rfl⟩
      cases bq with
      | true =>
        have HV : Hid (Q = (1, 0, 0)) := Lib.hid (by rw [HX.out]; rfl)
        clear HO2
        have HQ := Lib.hid (Fr2 (bf.set2 (.int .i64 (1)) (.int .i64 (0))))
        have HW := Lib.hid (below_set2 hbw.out (g := g + 1) HG.out (.int .i64 (1)) (.int .i64 (0)))
        obtain ⟨k0, k1, f0, f1⟩ := Fr2 bf
        go_wp2
        obtain ⟨q0, q1, _, _⟩ := HQ.out
        refine bodyPost_ret (v := .tuple #[.agg #[.int .i64 (1), .int .i64 (0)], .int .i64 (0)]) (by simp [results, Tryz.results129, go_sem, q0, q1]) rfl ?_
        exact ⟨ret_fr HV.out, HW.out⟩
      | false =>
        by_cases ha : a = 0
        · obtain rfl : b = 0 := by omega
          subst ha
          have HV : Hid (Q = (4, 0, 0)) := Lib.hid (by rw [HX.out]; rfl)
          clear HO2
          have HOr := Lib.hid (fun W => orElse_any (0) (0) 4 W)
          rw [show orN 0 0 4 = (4, 0) from rfl] at HOr
          go_wp2_with fail
          refine (HOr.out _).mono ?_
          rintro e w4 ⟨rfl, hb4⟩
          simp only
          have bf4 := bf.up hb4
          have hbw4 := Lib.hid (bon hbw.out hb4)
          clear bf hbw hb4 HOr c0 c1 c2 c3 c4 c5 x0 x1 y0 y1
          have HQ := Lib.hid (Fr2 (bf4.set2 (.int .i64 (4)) (.int .i64 (0))))
          have HW := Lib.hid (below_set2 hbw4.out (g := g + 1) HG.out (.int .i64 (4)) (.int .i64 (0)))
          obtain ⟨k0, k1, f0, f1⟩ := Fr2 bf4
          go_wp2
          obtain ⟨q0, q1, _, _⟩ := HQ.out
          refine bodyPost_ret (v := .tuple #[.agg #[.int .i64 (4), .int .i64 (0)], .int .i64 (0)]) (by simp [results, Tryz.results129, go_sem, q0, q1]) rfl ?_
          exact ⟨ret_fr HV.out, HW.out⟩
        · have HV : Hid (Q = (a, b, 0)) := Lib.hid (by rw [HX.out]; simp [ansF, ha])
          have hab : (a == 0) = false := beq_eq_false_iff_ne.2 ha
          clear HO2
          have HOr := Lib.hid (fun W => orElse_any (a) (b) 4 W)
          rw [show orN a b 4 = (a, b) from if_neg (fun h => ha h.1)] at HOr
          go_wp2_with fail
          refine (HOr.out _).mono ?_
          rintro e w4 ⟨rfl, hb4⟩
          simp only
          have bf4 := bf.up hb4
          have hbw4 := Lib.hid (bon hbw.out hb4)
          clear bf hbw hb4 HOr c0 c1 c2 c3 c4 c5 x0 x1 y0 y1
          have HQ := Lib.hid (Fr2 (bf4.set2 (.int .i64 (a)) (.int .i64 (b))))
          have HW := Lib.hid (below_set2 hbw4.out (g := g + 1) HG.out (.int .i64 (a)) (.int .i64 (b)))
          obtain ⟨k0, k1, f0, f1⟩ := Fr2 bf4
          go_wp2
          obtain ⟨q0, q1, _, _⟩ := HQ.out
          refine bodyPost_ret (v := .tuple #[.agg #[.int .i64 (a), .int .i64 (b)], .int .i64 (0)]) (by simp [results, Tryz.results129, go_sem, q0, q1]) rfl ?_
          exact ⟨ret_fr HV.out, HW.out⟩
    · obtain ⟨rfl, rfl⟩ : a = 0 ∧ b = 0 := by omega
      have HV : Hid (Q = (0, 0, d)) := Lib.hid (by rw [HD.out]; simp [ansF, hd])
      have hdb : (d == 0) = false := beq_eq_false_iff_ne.2 hd
      have hdc : (d != 0) = true := bne_iff_ne.2 hd
      clear HO HO2 hd
      have HQ := Lib.hid (Fr2 (bf.set2 (.int .i64 (0)) (.int .i64 (0))))
      have HW := Lib.hid (below_set2 hbw.out (g := g + 1) HG.out (.int .i64 (0)) (.int .i64 (0)))
      obtain ⟨k0, k1, f0, f1⟩ := Fr2 bf
      go_wp2
      obtain ⟨q0, q1, _, _⟩ := HQ.out
      refine bodyPost_ret (v := .tuple #[.agg #[.int .i64 (0), .int .i64 (0)], .int .i64 (d)]) (by simp [results, Tryz.results129, go_sem, q0, q1]) rfl ?_
      exact ⟨ret_fr HV.out, HW.out⟩

end
end Go.Proofs.YtdlihfbaepjliaaGreatDoor
