/-
  The walks of chunk's own actions and readLine.
-/
import Derived.Test.YtdlihfbaepjliaaGreatDoorCkF
import Derived.Test.YtdlihfbaepjliaaGreatDoorJCkL
import Derived.Test.YtdlihfbaepjliaaGreatDoorProg
import Derived.Lib.SlTrimSet
import Derived.WalkKit
import Derived.Lib.Split
import Derived.WalkSpells
import Derived.WalkLawsBesides
import Derived.WalkSmall
import Derived.Lib.Hide
import Derived.IntWalk
import Derived.BigQuiet
import Derived.Laws.OwnMore
import Derived.Deep.AppendLies
import Derived.Deep.RegionLaw
import Derived.Deep.Upon
import Derived.Deep.DeepCutAuto
import Derived.Lib.IndexLaws
import Derived.Shelf.LaysM
import Derived.Shelf.Small.Strs
import Derived.Shelf.Small.Wraps
import Derived.Shelf.Strings.Search1
import Derived.Shelf.Strings.Search2
import Derived.Shelf.Strings.SlTrimAscii
import Derived.Shelf.Strings.Split
import Derived.Shelf.Strings.Prefix
import Derived.Shelf.Strconv.Itoa4
import Derived.Lib.SmallJoins
import Derived.Lib.LaidTab
import Derived.Lib.AppendIntMem
import Derived.Lib.IndexAny
import Derived.RangeFuncNested
import Derived.RangeFuncBound
import Derived.RangeFuncCalls
import Derived.RangeFuncLeaves
import Derived.Shelf.Abstract
import Derived.Shelf.RegionOpen
import Derived.OwnWalkIn
import Derived.TacticsInMore
import Derived.LoopNIn
import Derived.LoopIn
import Derived.Maps.AppendAt
import Derived.Deep.RegionHeld3
namespace Go.Proofs.YtdlihfbaepjliaaGreatDoor
open Go.RowKit

/-! the map of actions -/
theorem push_setP {α : Type} (a : Array α) (o o' : α) : (a.push o).setIfInBounds a.size o' = a.push o' := by
  apply Array.ext_getElem?
  intro i
  rw [Array.getElem?_setIfInBounds, Array.getElem?_push, Array.getElem?_push]
  by_cases h : a.size = i
  · subst h; simp
  · rw [if_neg h, if_neg (fun e => h e.symm), if_neg (fun e => h e.symm)]
theorem alloc_setP (w : World) (o o' : Obj) : { (w.alloc o) with heap := (w.alloc o).heap.setIfInBounds w.heap.size o' } = w.alloc o' := by
  unfold World.alloc
  show World.mk _ _ _ _ _ = World.mk _ _ _ _ _
  rw [push_setP]
theorem mput (w : World) (es : Array MapEntry) (n : Nat) (k : Int) (v : Value) (hf : Instr.findNow (.int .i64) (.int .i64 k) es.toList 0 = some none) : (Instr.mapUpdate 142 (.map (some w.heap.size)) (.int .i64 k) v).run Tryz.prog (w.alloc (.map es n)) = .ok () (w.alloc (.map (es.push { key := .int .i64 k, val := v, born := n }) (n + 1))) := by
  have hb : (w.alloc (.map es n)).heap[w.heap.size]? = some (.map es n) := heap_alloc_new w _
  have hc : (Instr.checkKey false 10000 3 (.int .i64 k)).run Tryz.prog (w.alloc (.map es n)) = .ok () (w.alloc (.map es n)) := MapKept.run_checkKey (k := .int .i64 k) Tryz.underlying3 (by simp [MapKept.IsKey]) false 9999
  simp [Instr.mapUpdate, run_underlying Tryz.underlying142, MapKept.run_getObj_map hb, hc, MapKept.run_findKey Tryz.underlying3 hf, MapKept.run_setObj_map _ hb, Result.andThen]
  exact alloc_setP _ _ _
/-- what is done with a line, by the state -/
def Am (W : World) (g : Nat) : Prop := W.heap[g]? = some (.map #[{ key := .int .i64 0, val := .func (.func 147) #[] #[], born := 0 }, { key := .int .i64 2, val := .func (.func 148) #[] #[], born := 1 }, { key := .int .i64 3, val := .func (.func 149) #[] #[], born := 2 }] 3)
theorem lk_at {W : World} {g : Nat} (h : Am W g) (s : Int) (i : Nat) (v : Value) (hf : Instr.findNow (.int .i64) (.int .i64 s) [{ key := .int .i64 0, val := .func (.func 147) #[] #[], born := 0 }, { key := .int .i64 2, val := .func (.func 148) #[] #[], born := 1 }, { key := .int .i64 3, val := .func (.func 149) #[] #[], born := 2 }] 0 = some (some (i, v))) : (Instr.lookup 142 (.map (some g)) (.int .i64 s) false).run Tryz.prog W = .ok v W := by
  have hc : ∀ e, (Instr.checkKey e 10000 3 (.int .i64 s)).run Tryz.prog W = .ok () W := fun e => MapKept.run_checkKey (k := .int .i64 s) Tryz.underlying3 (by simp [MapKept.IsKey]) e 9999
  simp [Instr.lookup, run_underlying Tryz.underlying142, MapKept.run_getObj_map h, hc, MapKept.run_findKey Tryz.underlying3 hf, Result.andThen]
theorem lkA {W : World} {g : Nat} (h : Am W g) : (Instr.lookup 142 (.map (some g)) (.int .i64 0) false).run Tryz.prog W = .ok (.func (.func 147) #[] #[]) W := lk_at h 0 0 _ rfl
theorem lkB {W : World} {g : Nat} (h : Am W g) : (Instr.lookup 142 (.map (some g)) (.int .i64 2) false).run Tryz.prog W = .ok (.func (.func 148) #[] #[]) W := lk_at h 2 1 _ rfl
theorem lkC {W : World} {g : Nat} (h : Am W g) : (Instr.lookup 142 (.map (some g)) (.int .i64 3) false).run Tryz.prog W = .ok (.func (.func 149) #[] #[]) W := lk_at h 3 2 _ rfl
/-- the map is handed back -/
def AmEnds (w : World) (e : Ending) (w' : World) : Prop := e = .returned (.map (some w.heap.size)) ∧ Am w' w.heap.size ∧ Below w.heap.size w w'
set_option maxRecDepth 100000 in
theorem acts_any (w : World) : Calls Tryz.prog 131 #[] w (AmEnds w) := by
  have hmm := @run_makeMap Tryz.prog
  have m1 := fun v => mput w #[] 0 0 v rfl
  have m2 := fun v => mput w #[{ key := .int .i64 0, val := .func (.func 147) #[] #[], born := 0 }] 1 2 v rfl
  have m3 := fun v => mput w #[{ key := .int .i64 0, val := .func (.func 147) #[] #[], born := 0 }, { key := .int .i64 2, val := .func (.func 148) #[] #[], born := 1 }] 2 3 v rfl
  simp only [List.push_toArray, List.nil_append, List.cons_append, Nat.zero_add, Nat.reduceAdd] at m1 m2 m3
  go_enter Tryz.func131, Tryz.ntmps131
  go_wp2
  go_ret
  exact ⟨rfl, heap_alloc_new w _, ba1 _ _⟩

theorem suff_ends (l : Bs) : Lib.hasSuffix l [13, 10] = endsL l := by
  rw [Bool.eq_iff_iff]
  unfold Lib.hasSuffix endsL
  rw [List.isSuffixOf_iff_suffix, List.suffix_iff_eq_drop, Bool.and_eq_true, decide_eq_true_eq, decide_eq_true_eq]
  constructor
  · intro h
    have h2 : l.drop (l.length - 2) = [13, 10] := h.symm
    refine ⟨?_, h2⟩
    have := congrArg List.length h2
    simp only [List.length_drop, List.length_cons, List.length_nil] at this
    omega
  · exact fun h => h.2.symm
theorem trim_ends {l : Bs} (h : endsL l = true) : Lib.trimSuffix l [13, 10] = l.take (l.length - 2) := by
  unfold Lib.trimSuffix
  rw [suff_ends, h]
  rfl
theorem trim_not {l : Bs} (h : endsL l = false) : Lib.trimSuffix l [13, 10] = l := by
  unfold Lib.trimSuffix
  rw [suff_ends, h]
  rfl

/-- what the line is turned to -/
def stepQ (s l : Int) (ln : Bs) (m : Int) (c : UInt8) : Ck × Int := ((stepC ⟨s, l, ln, m⟩ c).1, (stepC ⟨s, l, ln, m⟩ c).2.2)

set_option maxRecDepth 100000 in
set_option maxHeartbeats 4000000 in
theorem read_any (g : Nat) (s l : Int) (n1 : ByteArray) (m : Int) (b : ByteArray) (c : UInt8) (hbc : dl b = [c]) (hn : n1.size ≤ 200) (hs : s = 0 ∨ s = 2 ∨ s = 3) (hm : -9000 ≤ m ∧ m ≤ 9000) (w : World) (h : Box w g 121 #[.int .i64 s, .int .i64 l, .string n1, .int .i64 m]) : Calls Tryz.prog 110 #[.pointer (some ⟨g, 0, none⟩), .string b] w (ActEnds g (stepQ s l (dl n1) m c) w) := by
  have hbs : b.size = 1 := by rw [← dl_len, hbc]; rfl
  have hLs : (n1 ++ b).size = n1.size + 1 := by rw [ByteArray.size_append, hbs]
  have hLl : dl (n1 ++ b) = dl n1 ++ [c] := by rw [dl_app, hbc]
  have h1 : s ≠ 1 := by omega
  obtain ⟨q, hq⟩ : ∃ q, stepQ s l (dl n1) m c = q := ⟨_, rfl⟩
  rw [hq]
  have HQ := Lib.hid hq.symm
  clear hq
  have kadd := fun W => run_string_add_sum (P := Tryz.prog) W n1 b (by omega)
  obtain ⟨c0, c1, c2, c3⟩ := h.four
  obtain ⟨d0, d1, d2, d3⟩ := h.fourf
  go_enter Tryz.func110, Tryz.ntmps110
  go_wp2_with fail
  obtain ⟨L, hL⟩ : ∃ L, n1 ++ b = L := ⟨_, rfl⟩
  rw [hL] at hLs hLl ⊢
  clear kadd hL hbs
  have HC := Lib.hid (sh_CutSuffix L ⟨#[13, 10]⟩ w (by omega))
  refine HC.out.mono ?_
  rintro e w1 ⟨rfl, hw⟩
  cases hw
  clear HC
  rw [show L.data.toList = dl n1 ++ [c] from hLl, show (⟨#[13, 10]⟩ : ByteArray).data.toList = [13, 10] from rfl, suff_ends]
  by_cases hE : endsL (dl n1 ++ [c]) = true
  case neg =>
    have hE2 : endsL (dl n1 ++ [c]) = false := by simpa using hE
    rw [trim_not hE2, hE2, ← hLl, show (⟨(dl L).toArray⟩ : ByteArray) = L from dl_inj (dl_mk _)]
    by_cases hbig : 200 < n1.size + 1
    · have HV : Hid (q = (⟨s, l, dl n1, m⟩, 2)) := Lib.hid (by
        rw [HQ.out, stepQ, stepC, if_neg h1, if_neg hE, if_pos (by rw [dl_len]; omega)])
      have hbi : (200 : Int) < (L.size : Int) := by omega
      have HX := Lib.hid h
      clear h hE hE2 HQ hLl hs h1
      go_wp2
      go_ret
      rw [HV.out]
      exact ⟨n1, rfl, rfl, HX.out, But.refl g w⟩
    · have HV : Hid (q = (⟨s, l, dl L, m⟩, 0)) := Lib.hid (by
        rw [HQ.out, stepQ, step_more h1 hE (by rw [dl_len]; omega), hLl])
      have hbi : ¬ (200 : Int) < (L.size : Int) := by omega
      have HX := Lib.hid (And.intro (set_c h L) ((But.refl g w).set 2 (.string L)))
      clear h hE hE2 HQ hLl hs h1
      go_wp2
      go_ret
      rw [HV.out]
      exact ⟨L, rfl, rfl, HX.out.1, HX.out.2⟩
  case pos =>
    have hlen : (dl n1 ++ [c]).length - 2 = (dl n1).length - 1 := by rw [List.length_append]; simp only [List.length_cons, List.length_nil]; omega
    rw [trim_ends hE, hE, hlen]
    obtain ⟨x, hx⟩ : ∃ x : ByteArray, (⟨((dl n1 ++ [c]).take ((dl n1).length - 1)).toArray⟩ : ByteArray) = x := ⟨_, rfl⟩
    rw [hx]
    have hxl : dl x = (dl n1 ++ [c]).take ((dl n1).length - 1) := by rw [← hx, dl_mk]
    have hxs : x.size ≤ 4096 := by
      rw [← dl_len, hxl, List.length_take, dl_len]
      omega
    have HV : Hid (q = lineC ⟨s, l, [], m⟩ (dl x)) := Lib.hid (by
      rw [HQ.out, stepQ, step_line h1 hE, hxl])
    have b2 := set_c h ⟨#[]⟩
    have hu := (But.refl g w).set 2 (.string ⟨#[]⟩)
    clear h hE HQ hLl h1 hlen hx hxl hLs hbc hn
    go_upto_region 4 with fail
    clear c0 c1 c2 c3 d0 d1 d2 d3
    generalize w.setCell ⟨g, 2, none⟩ (.string ⟨#[]⟩) = W1 at *
    rcases hs with rfl | rfl | rfl
    · have HA : Hid (∀ W, Box W g 121 #[.int .i64 0, .int .i64 l, .string ⟨#[]⟩, .int .i64 m] → Calls Tryz.prog 147 #[.pointer (some ⟨g, 0, none⟩), .string x] W (ActEnds g q W)) := Lib.hid (fun W hW => by rw [HV.out]; exact begin_any g l m x hxs hm W hW)
      obtain ⟨c0, c1, c2, c3⟩ := b2.four
      clear HV
      go_region_law (first
        | (go_simp; go_at_call 131; refine (acts_any _).mono ?_; rintro e wP ⟨rfl, hAm, hbP⟩; have hlk : (Instr.lookup 142 (.map (some W1.heap.size)) (.int .i64 0) false).run Tryz.prog wP = .ok (.func (.func 147) #[] #[]) wP := lkA hAm; have b3 : Box wP g 121 #[.int .i64 0, .int .i64 l, .string ⟨#[]⟩, .int .i64 m] := (by first | exact b2.up hbP | exact (show Box W1.drew g 121 _ from b2).up hbP); have hu3 : But g w wP := (by first | exact hu.on (But.of hbP) | exact (show But g w W1.drew from ⟨hu.os, hu.tape, hu.output, hu.size, hu.block⟩).on (But.of hbP)); have b4 := b3.four; have b40 := b4.1)
        | (go_simp; go_at_call 147; refine (HA.out _ (by assumption)).mono ?_; rintro e wR ⟨nR, rfl, hnR, hbR, huR⟩)
        | fail)
      all_goals
        go_wp2
        go_ret
        exact ⟨nR, rfl, hnR, hbR, hu3.on huR⟩
    · have HA : Hid (∀ W, Box W g 121 #[.int .i64 2, .int .i64 l, .string ⟨#[]⟩, .int .i64 m] → Calls Tryz.prog 148 #[.pointer (some ⟨g, 0, none⟩), .string x] W (ActEnds g q W)) := Lib.hid (fun W hW => by rw [HV.out]; exact endc_any g l m x W hW)
      obtain ⟨c0, c1, c2, c3⟩ := b2.four
      clear HV
      go_region_law (first
        | (go_simp; go_at_call 131; refine (acts_any _).mono ?_; rintro e wP ⟨rfl, hAm, hbP⟩; have hlk : (Instr.lookup 142 (.map (some W1.heap.size)) (.int .i64 2) false).run Tryz.prog wP = .ok (.func (.func 148) #[] #[]) wP := lkB hAm; have b3 : Box wP g 121 #[.int .i64 2, .int .i64 l, .string ⟨#[]⟩, .int .i64 m] := (by first | exact b2.up hbP | exact (show Box W1.drew g 121 _ from b2).up hbP); have hu3 : But g w wP := (by first | exact hu.on (But.of hbP) | exact (show But g w W1.drew from ⟨hu.os, hu.tape, hu.output, hu.size, hu.block⟩).on (But.of hbP)); have b4 := b3.four; have b40 := b4.1)
        | (go_simp; go_at_call 148; refine (HA.out _ (by assumption)).mono ?_; rintro e wR ⟨nR, rfl, hnR, hbR, huR⟩)
        | fail)
      all_goals
        go_wp2
        go_ret
        exact ⟨nR, rfl, hnR, hbR, hu3.on huR⟩
    · have HA : Hid (∀ W, Box W g 121 #[.int .i64 3, .int .i64 l, .string ⟨#[]⟩, .int .i64 m] → Calls Tryz.prog 149 #[.pointer (some ⟨g, 0, none⟩), .string x] W (ActEnds g q W)) := Lib.hid (fun W hW => by rw [HV.out]; exact trail_any g l m x hxs W hW)
      obtain ⟨c0, c1, c2, c3⟩ := b2.four
      clear HV
      go_region_law (first
        | (go_simp; go_at_call 131; refine (acts_any _).mono ?_; rintro e wP ⟨rfl, hAm, hbP⟩; have hlk : (Instr.lookup 142 (.map (some W1.heap.size)) (.int .i64 3) false).run Tryz.prog wP = .ok (.func (.func 149) #[] #[]) wP := lkC hAm; have b3 : Box wP g 121 #[.int .i64 3, .int .i64 l, .string ⟨#[]⟩, .int .i64 m] := (by first | exact b2.up hbP | exact (show Box W1.drew g 121 _ from b2).up hbP); have hu3 : But g w wP := (by first | exact hu.on (But.of hbP) | exact (show But g w W1.drew from ⟨hu.os, hu.tape, hu.output, hu.size, hu.block⟩).on (But.of hbP)); have b4 := b3.four; have b40 := b4.1)
        | (go_simp; go_at_call 149; refine (HA.out _ (by assumption)).mono ?_; rintro e wR ⟨nR, rfl, hnR, hbR, huR⟩)
        | fail)
      all_goals
        go_wp2
        go_ret
        exact ⟨nR, rfl, hnR, hbR, hu3.on huR⟩
end Go.Proofs.YtdlihfbaepjliaaGreatDoor
