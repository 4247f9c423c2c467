/-
  The walk of the document's own Drop.
-/
import Derived.Test.YtdlihfbaepjliaaGreatDoorJWords
import Derived.Test.YtdlihfbaepjliaaGreatDoorJRefS
import Derived.Test.YtdlihfbaepjliaaGreatDoorJHdU
import Derived.Test.YtdlihfbaepjliaaGreatDoorProg
import Derived.Lib.SlTrimSet
import Derived.WalkKit
import Derived.Lib.Split
import Derived.WalkSpells
import Derived.WalkLawsBesides
import Derived.WalkSmall
import Derived.Lib.Hide
import Derived.IntWalk
import Derived.BigQuiet
import Derived.Laws.OwnMore
import Derived.Deep.AppendLies
import Derived.Deep.RegionLaw
import Derived.Deep.Upon
import Derived.Deep.DeepCutAuto
import Derived.Lib.IndexLaws
import Derived.Shelf.LaysM
import Derived.Shelf.Small.Strs
import Derived.Shelf.Small.Wraps
import Derived.Shelf.Strings.Search1
import Derived.Shelf.Strings.Search2
import Derived.Shelf.Strings.SlTrimAscii
import Derived.Shelf.Strings.Split
import Derived.Shelf.Strings.Prefix
import Derived.Shelf.Strconv.Itoa4
import Derived.Lib.SmallJoins
import Derived.Lib.LaidTab
import Derived.Lib.AppendIntMem
import Derived.Lib.IndexAny
import Derived.RangeFuncNested
import Derived.RangeFuncBound
import Derived.RangeFuncCalls
import Derived.RangeFuncLeaves
import Derived.Shelf.Abstract
import Derived.Shelf.RegionOpen
import Derived.OwnWalkIn
import Derived.TacticsInMore
import Derived.LoopNIn
import Derived.LoopIn
import Derived.Maps.AppendAt
import Derived.Deep.RegionHeld3
namespace Go.Proofs.YtdlihfbaepjliaaGreatDoor
open Go.RowKit

/-- does one of the names match? -/
def hitL (x : ByteArray) (ns : List ByteArray) : Bool := ns.any fun y => decide (lowerL (dl x) = lowerL (dl y))
/-- the fields whose names match none of these -/
def dropL (fs : List Fd) (ns : List ByteArray) : List Fd := fs.filter fun f => !hitL f.1 ns
theorem dropL_succ {fs : List Fd} {ns : List ByteArray} {k : Nat} {x y : ByteArray} (h : fs[k]? = some (x, y)) : dropL (fs.take (k + 1)) ns = if hitL x ns = true then dropL (fs.take k) ns else dropL (fs.take k) ns ++ [(x, y)] := by
  rw [List.take_add_one, h, dropL, dropL]
  simp only [Option.toList_some, List.filter_append]
  cases hq : hitL x ns <;> simp [hq]
theorem hit_succ {x y : ByteArray} {ns : List ByteArray} {k : Nat} (h : ns[k]? = some y) : hitL x (ns.take (k + 1)) = (hitL x (ns.take k) || decide (lowerL (dl x) = lowerL (dl y))) := by
  rw [List.take_add_one, h, hitL, hitL]
  simp
/-- fields that are just these are handed back -/
def FsEnds (xs : List Fd) (w : World) (e : Ending) (w' : World) : Prop := ∃ s : Sli, e = .returned (.slice s.A s.n s.c) ∧ Row w' w.heap.size 40 2 s (fvs xs) ∧ Below w.heap.size w w'
theorem heldE {W X w' : World} {a0 a1 : Addr} {v0 v1 : Value} (hb : Below X.heap.size X w')
    (h : Below W.heap.size W X ∧ X.cell? a0 = some v0 ∧ X.cell? a1 = some v1) :
    Below W.heap.size W w' ∧ w'.cell? a0 = some v0 ∧ w'.cell? a1 = some v1 :=
  ⟨bon h.1 hb, cell_up hb h.2.1, cell_up hb h.2.2⟩

set_option maxRecDepth 100000 in
set_option maxHeartbeats 4000000 in
theorem rdrop_any (L N : Sli) (fs : List Fd) (ns : List ByteArray) (w : World) (hL : Fs w L fs) (hN : Ss w N ns) (hn : L.n ≤ 4096) (hm : N.n ≤ 4096) (hf : ∀ f ∈ fs, f.1.size ≤ 4096) (hns : ∀ y ∈ ns, y.size ≤ 4096) : Calls Tryz.prog 24 #[L.v, N.v] w (FsEnds (dropL fs ns) w) := by
  obtain ⟨i32, hi, hz0, hz1, hz2⟩ := info_parts info32
  have HF := Lib.hid hf
  have HNS := Lib.hid hns
  have HL := Lib.hid hL
  have HN := Lib.hid hN
  obtain ⟨A, n, c⟩ := L
  obtain ⟨A2, m, c2⟩ := N
  simp only [Sli.v] at hn hm ⊢
  have hlen : Hid (fs.length = n) := Lib.hid hL.len
  have hlen2 : Hid (ns.length = m) := Lib.hid hN.len
  clear hf hL hN hns
  go_enter Tryz.func24, Tryz.ntmps24
  go_wp2_with fail
  go_loopw [6, 5] (fun i o wr => ∃ (k : Nat) (O : Sli), k ≤ n ∧ O.n ≤ k ∧ i = .int .i64 (k : Int) ∧ o = .slice O.A O.n O.c ∧ Hid (Out 40 2 w wr O (fvs (dropL (fs.take k) ns)))) (fun i _ _ => n - (intOf i).toNat)
  case atStart => exact ⟨0, ⟨none, 0, 0⟩, by omega, Nat.le_refl _, rfl, rfl, Lib.hid (Out.nil _ _ _ _ (Below.refl _ _))⟩
  case round =>
    obtain ⟨k, O, hk, hOn, rfl, rfl, HO⟩ := hrel
    by_cases hlt : k < n
    · obtain ⟨b, o, x, y, hA, hb, hx, c1, d1⟩ := (HL.out.up HO.out.hb).cell (k := k) hlt
      simp only at hA
      subst hA
      have hxs := HF.out _ (List.mem_of_getElem? hx)
      have HLX := Lib.hid (fun W => rlower_any x hxs W)
      have HS := Lib.hid (dropL_succ (ns := ns) hx)
      clear hx hxs
      have hki : (k : Int) < (n : Int) := by omega
      have hk0 : (0 : Int) ≤ (k : Int) := by omega
      have HC1 := Lib.hid c1
      have HD1 := Lib.hid d1
      clear c1 d1
      rename World => W1
      go_wp2_with fail
      go_loopw [8, 7] (fun j kp wq => ∃ (q : Nat), q ≤ m ∧ j = .int .i64 (q : Int) ∧ kp = .bool (!hitL x (ns.take q)) ∧ Below W1.heap.size W1 wq) (fun j _ _ => m - (intOf j).toNat)
      case atStart => exact ⟨0, by omega, rfl, rfl, Below.refl _ _⟩
      case round =>
        obtain ⟨q, hq, rfl, rfl, hbq⟩ := hrel
        by_cases hql : q < m
        · obtain ⟨b2, o2, z, hA2, hb2, hz, c2⟩ := (HN.out.up (bon HO.out.hb hbq)).cell (k := q) hql
          simp only at hA2
          subst hA2
          have hzs := HNS.out _ (List.mem_of_getElem? hz)
          have HLZ := Lib.hid (fun W => rlower_any z hzs W)
          have HH := Lib.hid (hit_succ (x := x) hz)
          clear hz hzs
          have hqi : (q : Int) < (m : Int) := by omega
          have hq0 : (0 : Int) ≤ (q : Int) := by omega
          have c1 := cell_up hbq HC1.out
          cases hh : hitL x (ns.take q) with
          | true =>
            have HH2 : Hid (hitL x (ns.take (q + 1)) = true) := Lib.hid (by rw [HH.out, hh]; rfl)
            clear hh HH
            simp only [Bool.not_true]
            go_wp2_with fail
            go_quiet (fail)
            go_wp2
            go_roundw
            case rel => exact ⟨q + 1, by omega, by go_num, by rw [HH2.out]; rfl, below_drewN hbq _⟩
            case measure => simp [intOf]; omega
          | false =>
            have HH2 : Hid (hitL x (ns.take (q + 1)) = decide (lowerL (dl x) = lowerL (dl z))) := Lib.hid (by rw [HH.out, hh]; rfl)
            clear hh HH
            simp only [Bool.not_false]
            go_wp2_with fail
            go_region_held3 (fun w' => Below wr.heap.size wr w' ∧ w'.cell? ⟨b, o + k * 2, none⟩ = some (.string x) ∧ w'.cell? ⟨b2, o2 + q, none⟩ = some (.string z))
              (first | exact heldE hbP (by assumption) | exact ⟨(Below.refl _ _).drew, c1, c2⟩)
              (first
                | (go_at_call_of 40 (Value.string x); refine (HLX.out _).mono ?_; rintro e wP ⟨r1, rfl, hr1, hbP⟩)
                | (go_at_call_of 40 (Value.string z); refine (HLZ.out _).mono ?_; rintro e wP ⟨r2, rfl, hr2, hbP⟩))
            rename_i hHeld
            have hfin := hHeld.1
            clear hHeld
            have hbf := bon hbq hfin
            by_cases hqq : r1 = r2
            · have HH3 : Hid (hitL x (ns.take (q + 1)) = true) := Lib.hid (by rw [HH2.out, decide_eq_true_eq, ← hr1, ← hr2, hqq])
              subst hqq
              clear hr1 hr2
              go_wp2
              go_roundw
              case rel => exact ⟨q + 1, by omega, by go_num, by rw [HH3.out]; simp, hbf⟩
              case measure => simp [intOf]; omega
            · have HH3 : Hid (hitL x (ns.take (q + 1)) = false) := Lib.hid (by rw [HH2.out, decide_eq_false_iff_not, ← hr1, ← hr2]; exact fun h => hqq (dl_inj h))
              have hrs : (r1.toList == r2.toList) = false := tl_ne hqq
              clear hr1 hr2
              go_wp2
              go_roundw
              case rel => exact ⟨q + 1, by omega, by go_num, by rw [HH3.out]; first | rfl | simp [hrs], hbf⟩
              case measure => simp [intOf]; omega
        · obtain rfl : q = m := by omega
          have HE : Hid (ns.take q = ns) := Lib.hid (List.take_of_length_le (by rw [hlen2.out]; exact Nat.le_refl _))
          rw [HE.out]
          have c1 := cell_up hbq HC1.out
          have d1 := cell_up hbq HD1.out
          have HO1 := Lib.hid (HO.out.up hbq)
          clear HO HC1 HD1
          cases hh : hitL x ns with
          | true =>
            have HS2 : Hid (dropL (fs.take (k + 1)) ns = dropL (fs.take k) ns) := Lib.hid (by rw [HS.out, hh]; rfl)
            clear hh HS
            simp only [Bool.not_true]
            go_wp2
            go_roundw
            case rel => exact ⟨k + 1, O, by omega, by omega, by go_num, rfl, by rw [HS2.out]; exact HO1⟩
            case measure => simp [intOf]; omega
          | false =>
            have HS2 : Hid (dropL (fs.take (k + 1)) ns = dropL (fs.take k) ns ++ [(x, y)]) := Lib.hid (by rw [HS.out, hh]; rfl)
            clear hh HS
            simp only [Bool.not_false]
            have HSrc := Lib.hid (src_one wr 40 (fvs [(x, y)]) 1 2 rfl)
            have HO3 := Lib.hid (HO1.out.up (ba1 wr (.cells #[.string x, .string y] 40)))
            have hBw : w.heap.size ≤ (wr.alloc (.cells #[.string x, .string y] 40)).heap.size := HO3.out.le
            clear HO1
            go_wp2_with (at_builtin; refine wpList_app _ rfl _ _ 27 rfl w.heap.size 40 i32 _ 2 32 (by decide) Tryz.underlying27 hi hz0 hz1 hz2 rfl (.slice O.A O.n O.c) O.n (fvs (dropL (fs.take k) ns)) rfl HO3.out.row (some ⟨wr.heap.size, 0, none⟩) 1 1 (fvs [(x, y)]) rfl HSrc.out (fvs_one _) ?_ ?_ hBw (O.n + 1) rfl ?_; (unfold maxLen; omega); omega; intro A' c' w3 h1 h2 h3; refine Hid.out ?_)
            have HO4 := Lib.hid (HO3.out.app (cs' := fvs (dropL (fs.take (k + 1)) ns)) (by rw [HS2.out, fvs_app]; exact h1) h2)
            clear h1 h2 h3 HO3 HSrc
            refine Lib.hid ?_
            go_wp2
            go_roundw
            case rel => exact ⟨k + 1, ⟨A', O.n + 1, c'⟩, by omega, by simp only; omega, by go_num, rfl, HO4⟩
            case measure => simp [intOf]; omega
    · obtain rfl : k = n := by omega
      have HE : Hid (fs.take k = fs) := Lib.hid (List.take_of_length_le (by rw [hlen.out]; exact Nat.le_refl _))
      rw [HE.out] at HO
      go_wp2
      go_ret
      exact ⟨O, rfl, HO.out.row, HO.out.hb⟩

end Go.Proofs.YtdlihfbaepjliaaGreatDoor
