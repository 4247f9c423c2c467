/-
  The walk of the document's own line.
-/
import Derived.Test.YtdlihfbaepjliaaGreatDoorCkA
import Derived.Test.YtdlihfbaepjliaaGreatDoorProg
import Derived.Lib.SlTrimSet
import Derived.WalkKit
import Derived.Lib.Split
import Derived.WalkSpells
import Derived.WalkLawsBesides
import Derived.WalkSmall
import Derived.Lib.Hide
import Derived.IntWalk
import Derived.BigQuiet
import Derived.Laws.OwnMore
import Derived.Deep.AppendLies
import Derived.Deep.RegionLaw
import Derived.Deep.Upon
import Derived.Deep.DeepCutAuto
import Derived.Lib.IndexLaws
import Derived.Shelf.LaysM
import Derived.Shelf.Small.Strs
import Derived.Shelf.Small.Wraps
import Derived.Shelf.Strings.Search1
import Derived.Shelf.Strings.Search2
import Derived.Shelf.Strings.SlTrimAscii
import Derived.Shelf.Strings.Split
import Derived.Shelf.Strings.Prefix
import Derived.Shelf.Strconv.Itoa4
import Derived.Lib.SmallJoins
import Derived.Lib.LaidTab
import Derived.Lib.AppendIntMem
import Derived.Lib.IndexAny
import Derived.RangeFuncNested
import Derived.RangeFuncBound
import Derived.RangeFuncCalls
import Derived.RangeFuncLeaves
import Derived.Shelf.Abstract
import Derived.Shelf.RegionOpen
import Derived.OwnWalkIn
import Derived.TacticsInMore
import Derived.LoopNIn
import Derived.LoopIn
import Derived.Maps.AppendAt
import Derived.Deep.RegionHeld3
import Derived.Test.YtdlihfbaepjliaaGreatDoorJOwnA
namespace Go.Proofs.YtdlihfbaepjliaaGreatDoor
open Go.RowKit

/-- a line's chunks and its error are handed back -/
def LineEnds (q : Ck × Int) (w : World) (e : Ending) (w' : World) : Prop := e = .returned (.tuple #[.agg #[.int .i64 q.1.s, .int .i64 q.1.l, .string ⟨#[]⟩, .int .i64 q.1.m], .int .i64 q.2]) ∧ Below w.heap.size w w'

set_option maxRecDepth 100000 in
set_option maxHeartbeats 4000000 in
theorem rckline_any (s l : Int) (ln : ByteArray) (m : Int) (x : ByteArray) (hx : x.size ≤ 4096) (hm : -9000 ≤ m) (hm2 : m ≤ 9000) (w : World) : Calls Tryz.prog 82 #[.agg #[.int .i64 s, .int .i64 l, .string ln, .int .i64 m], .string x] w (LineEnds (lineC (ckOf s l ln m) (dl x)) w) := by
  obtain ⟨Q, hQ⟩ : ∃ Q, lineC (ckOf s l ln m) (dl x) = Q := ⟨_, rfl⟩
  rw [hQ]
  have HD := Lib.hid hQ.symm
  clear hQ
  have hemp := isEmp (s := x)
  have hb0 := ba2 w (.cells #[.int .i64 s, .int .i64 l, .string ⟨#[]⟩, .int .i64 m] 26) (.cells #[.int .i64 0, .int .i64 0, .string ⟨#[]⟩, .int .i64 0] 26)
  have bc := (Box.new w 26 #[.int .i64 s, .int .i64 l, .string ⟨#[]⟩, .int .i64 m]).alloc (.cells #[.int .i64 0, .int .i64 0, .string ⟨#[]⟩, .int .i64 0] 26)
  have br := Box.mk' (w.alloc (.cells #[.int .i64 s, .int .i64 l, .string ⟨#[]⟩, .int .i64 m] 26)) 26 #[.int .i64 0, .int .i64 0, .string ⟨#[]⟩, .int .i64 0] (w.heap.size + 1) (by simp)
  go_enter Tryz.func82, Tryz.ntmps82
  go_upto_region 2 with fail
  obtain ⟨g, hg⟩ : ∃ g, w.heap.size = g := ⟨_, rfl⟩
  rw [hg] at bc br ⊢
  have HG : Hid (w.heap.size ≤ g + 1) := Lib.hid (by omega)
  have HG0 : Hid (w.heap.size ≤ g) := Lib.hid (by omega)
  clear hg
  have hbw := Lib.hid hb0
  clear hb0
  generalize (w.alloc (.cells #[.int .i64 s, .int .i64 l, .string ⟨#[]⟩, .int .i64 m] 26)).alloc (.cells #[.int .i64 0, .int .i64 0, .string ⟨#[]⟩, .int .i64 0] 26) = W0 at *
  obtain ⟨c0, c1, c2, c3⟩ := bc.four
  obtain ⟨d0, d1, d2, d3⟩ := bc.fourf
  by_cases s0 : s = 0
  · subst s0
    have HE : Hid (Q = if (sizeN (dl x)).2 ≠ 0 then (⟨0, l, [], m⟩, (sizeN (dl x)).2) else if 4000 - m < (sizeN (dl x)).1 then (⟨0, l, [], m⟩, 2) else (⟨if (sizeN (dl x)).1 = 0 then 3 else 1, (sizeN (dl x)).1, [], m⟩, 0)) := Lib.hid (by rw [HD.out, lineC, ckOf]; rfl)
    have HSz := Lib.hid (fun W => rcksize_any x hx W)
    have hp := size_pos (dl x)
    obtain ⟨p, hpq⟩ : ∃ p, sizeN (dl x) = p := ⟨_, rfl⟩
    rw [hpq] at HE hp
    have HS2 : Hid (∀ W, Calls Tryz.prog 101 #[.string x] W fun e w' => e = .returned (.tuple #[.int .i64 p.1, .int .i64 p.2]) ∧ w' = W) := Lib.hid (fun W => by rw [← hpq]; exact HSz.out W)
    clear hpq HSz HD
    obtain ⟨v, er⟩ := p
    simp only at HE hp HS2
    have t4 : IntKind.i64.wrap (4000 - m) = 4000 - m := IntWalk.i64_in _ (by omega)
    go_wp2_with fail
    refine (HS2.out _).mono ?_
    rintro e w1 ⟨rfl, rfl⟩
    by_cases e0 : er = 0
    · subst e0
      by_cases hbig : 4000 - m < v
      · have HV : Hid (Q = (⟨0, l, [], m⟩, 2)) := Lib.hid (by rw [HE.out, if_neg (by simp), if_pos hbig])
        have HQ := Lib.hid (br.set4 (.int .i64 (0)) (.int .i64 (l)) (.string ⟨#[]⟩) (.int .i64 (m))).four
        have HW := Lib.hid (below_set4 hbw.out (g := g + 1) HG.out (.int .i64 (0)) (.int .i64 (l)) (.string ⟨#[]⟩) (.int .i64 (m)))
        obtain ⟨k0, k1, k2, k3⟩ := br.four
        obtain ⟨f0, f1, f2, f3⟩ := br.fourf
        go_wp2
        obtain ⟨q0, q1, q2, q3⟩ := HQ.out
        refine bodyPost_ret (v := .tuple #[.agg #[.int .i64 (0), .int .i64 (l), .string ⟨#[]⟩, .int .i64 (m)], .int .i64 (2)]) (by simp [results, Tryz.results82, go_sem, q0, q1, q2, q3]) rfl ?_
        exact ⟨by rw [HV.out], HW.out⟩
      · by_cases hv : v = 0
        · subst hv
          have HV : Hid (Q = (⟨3, 0, [], m⟩, 0)) := Lib.hid (by rw [HE.out, if_neg (by simp), if_neg hbig, if_pos rfl])
          have bcu : Box (((w1.setCell ⟨g, 0, none⟩ (.int .i64 (1))).setCell ⟨g, 1, none⟩ (.int .i64 (0))).setCell ⟨g, 0, none⟩ (.int .i64 (3))) g 26 #[.int .i64 (3), .int .i64 (0), .string ⟨#[]⟩, .int .i64 (m)] := by
            have := (((bc.set 0 (.int .i64 (1))).set 1 (.int .i64 (0))).set 0 (.int .i64 (3)))
            simpa using this
          have bru := (((br.far (p := ⟨g, 0, none⟩) (by simp only; omega) (.int .i64 (1))).far (p := ⟨g, 1, none⟩) (by simp only; omega) (.int .i64 (0))).far (p := ⟨g, 0, none⟩) (by simp only; omega) (.int .i64 (3)))
          have hbu := Lib.hid (((hbw.out.setCell (p := ⟨g, 0, none⟩) HG0.out (.int .i64 (1))).setCell (p := ⟨g, 1, none⟩) HG0.out (.int .i64 (0))).setCell (p := ⟨g, 0, none⟩) HG0.out (.int .i64 (3)))
          go_upto_region 23 with fail
          clear c0 c1 c2 c3 d0 d1 d2 d3 bc br hbw
          generalize (((w1.setCell ⟨g, 0, none⟩ (.int .i64 (1))).setCell ⟨g, 1, none⟩ (.int .i64 (0))).setCell ⟨g, 0, none⟩ (.int .i64 (3))) = W2 at *
          obtain ⟨c0, c1, c2, c3⟩ := bcu.four
          have HQ := Lib.hid (bru.set4 (.int .i64 (3)) (.int .i64 (0)) (.string ⟨#[]⟩) (.int .i64 (m))).four
          have HW := Lib.hid (below_set4 hbu.out (g := g + 1) HG.out (.int .i64 (3)) (.int .i64 (0)) (.string ⟨#[]⟩) (.int .i64 (m)))
          obtain ⟨k0, k1, k2, k3⟩ := bru.four
          obtain ⟨f0, f1, f2, f3⟩ := bru.fourf
          go_wp2
          obtain ⟨q0, q1, q2, q3⟩ := HQ.out
          refine bodyPost_ret (v := .tuple #[.agg #[.int .i64 (3), .int .i64 (0), .string ⟨#[]⟩, .int .i64 (m)], .int .i64 (0)]) (by simp [results, Tryz.results82, go_sem, q0, q1, q2, q3]) rfl ?_
          exact ⟨by rw [HV.out], HW.out⟩
        · have HV : Hid (Q = (⟨1, v, [], m⟩, 0)) := Lib.hid (by rw [HE.out, if_neg (by simp), if_neg hbig, if_neg hv])
          have hvb : (v == 0) = false := beq_eq_false_iff_ne.2 hv
          clear hv
          have bcu : Box ((w1.setCell ⟨g, 0, none⟩ (.int .i64 (1))).setCell ⟨g, 1, none⟩ (.int .i64 (v))) g 26 #[.int .i64 (1), .int .i64 (v), .string ⟨#[]⟩, .int .i64 (m)] := by
            have := ((bc.set 0 (.int .i64 (1))).set 1 (.int .i64 (v)))
            simpa using this
          have bru := ((br.far (p := ⟨g, 0, none⟩) (by simp only; omega) (.int .i64 (1))).far (p := ⟨g, 1, none⟩) (by simp only; omega) (.int .i64 (v)))
          have hbu := Lib.hid ((hbw.out.setCell (p := ⟨g, 0, none⟩) HG0.out (.int .i64 (1))).setCell (p := ⟨g, 1, none⟩) HG0.out (.int .i64 (v)))
          go_upto_region 23 with fail
          clear c0 c1 c2 c3 d0 d1 d2 d3 bc br hbw
          generalize ((w1.setCell ⟨g, 0, none⟩ (.int .i64 (1))).setCell ⟨g, 1, none⟩ (.int .i64 (v))) = W2 at *
          obtain ⟨c0, c1, c2, c3⟩ := bcu.four
          have HQ := Lib.hid (bru.set4 (.int .i64 (1)) (.int .i64 (v)) (.string ⟨#[]⟩) (.int .i64 (m))).four
          have HW := Lib.hid (below_set4 hbu.out (g := g + 1) HG.out (.int .i64 (1)) (.int .i64 (v)) (.string ⟨#[]⟩) (.int .i64 (m)))
          obtain ⟨k0, k1, k2, k3⟩ := bru.four
          obtain ⟨f0, f1, f2, f3⟩ := bru.fourf
          go_wp2
          obtain ⟨q0, q1, q2, q3⟩ := HQ.out
          refine bodyPost_ret (v := .tuple #[.agg #[.int .i64 (1), .int .i64 (v), .string ⟨#[]⟩, .int .i64 (m)], .int .i64 (0)]) (by simp [results, Tryz.results82, go_sem, q0, q1, q2, q3]) rfl ?_
          exact ⟨by rw [HV.out], HW.out⟩
    · have HV : Hid (Q = (⟨0, l, [], m⟩, er)) := Lib.hid (by rw [HE.out, if_pos e0])
      have t0 : (er != 0) = true := bne_iff_ne.2 e0
      have t1 : (er == 0) = false := beq_eq_false_iff_ne.2 e0
      have HQ := Lib.hid (br.set4 (.int .i64 (0)) (.int .i64 (l)) (.string ⟨#[]⟩) (.int .i64 (m))).four
      have HW := Lib.hid (below_set4 hbw.out (g := g + 1) HG.out (.int .i64 (0)) (.int .i64 (l)) (.string ⟨#[]⟩) (.int .i64 (m)))
      obtain ⟨k0, k1, k2, k3⟩ := br.four
      obtain ⟨f0, f1, f2, f3⟩ := br.fourf
      go_wp2
      obtain ⟨q0, q1, q2, q3⟩ := HQ.out
      refine bodyPost_ret (v := .tuple #[.agg #[.int .i64 (0), .int .i64 (l), .string ⟨#[]⟩, .int .i64 (m)], .int .i64 (er)]) (by simp [results, Tryz.results82, go_sem, q0, q1, q2, q3]) rfl ?_
      exact ⟨by rw [HV.out], HW.out⟩
  · have s0b : (s == 0) = false := beq_eq_false_iff_ne.2 s0
    by_cases s2 : s = 2
    · subst s2
      by_cases hz : x.size = 0
      · rw [decide_eq_true hz] at hemp
        have HV : Hid (Q = (⟨0, l, [], m⟩, 0)) := Lib.hid (by rw [HD.out, lineC, ckOf, if_neg s0, if_pos rfl, if_pos (dl_nil hz)])
        clear s0
        have bcu : Box (W0.setCell ⟨g, 0, none⟩ (.int .i64 (0))) g 26 #[.int .i64 (0), .int .i64 (l), .string ⟨#[]⟩, .int .i64 (m)] := by
          have := (bc.set 0 (.int .i64 (0)))
          simpa using this
        have bru := (br.far (p := ⟨g, 0, none⟩) (by simp only; omega) (.int .i64 (0)))
        have hbu := Lib.hid (hbw.out.setCell (p := ⟨g, 0, none⟩) HG0.out (.int .i64 (0)))
        go_upto_region 23 with fail
        clear c0 c1 c2 c3 d0 d1 d2 d3 bc br hbw
        generalize (W0.setCell ⟨g, 0, none⟩ (.int .i64 (0))) = W2 at *
        obtain ⟨c0, c1, c2, c3⟩ := bcu.four
        have HQ := Lib.hid (bru.set4 (.int .i64 (0)) (.int .i64 (l)) (.string ⟨#[]⟩) (.int .i64 (m))).four
        have HW := Lib.hid (below_set4 hbu.out (g := g + 1) HG.out (.int .i64 (0)) (.int .i64 (l)) (.string ⟨#[]⟩) (.int .i64 (m)))
        obtain ⟨k0, k1, k2, k3⟩ := bru.four
        obtain ⟨f0, f1, f2, f3⟩ := bru.fourf
        go_wp2
        obtain ⟨q0, q1, q2, q3⟩ := HQ.out
        refine bodyPost_ret (v := .tuple #[.agg #[.int .i64 (0), .int .i64 (l), .string ⟨#[]⟩, .int .i64 (m)], .int .i64 (0)]) (by simp [results, Tryz.results82, go_sem, q0, q1, q2, q3]) rfl ?_
        exact ⟨by rw [HV.out], HW.out⟩
      · rw [decide_eq_false hz] at hemp
        have HV : Hid (Q = (⟨2, l, [], m⟩, 23)) := Lib.hid (by rw [HD.out, lineC, ckOf, if_neg s0, if_pos rfl, if_neg (fun h => hz (by rw [← dl_len, h]; rfl))])
        clear s0
        have HQ := Lib.hid (br.set4 (.int .i64 (2)) (.int .i64 (l)) (.string ⟨#[]⟩) (.int .i64 (m))).four
        have HW := Lib.hid (below_set4 hbw.out (g := g + 1) HG.out (.int .i64 (2)) (.int .i64 (l)) (.string ⟨#[]⟩) (.int .i64 (m)))
        obtain ⟨k0, k1, k2, k3⟩ := br.four
        obtain ⟨f0, f1, f2, f3⟩ := br.fourf
        go_wp2
        obtain ⟨q0, q1, q2, q3⟩ := HQ.out
        refine bodyPost_ret (v := .tuple #[.agg #[.int .i64 (2), .int .i64 (l), .string ⟨#[]⟩, .int .i64 (m)], .int .i64 (23)]) (by simp [results, Tryz.results82, go_sem, q0, q1, q2, q3]) rfl ?_
        exact ⟨by rw [HV.out], HW.out⟩
    · have s2b : (s == 2) = false := beq_eq_false_iff_ne.2 s2
      by_cases hz : x.size = 0
      · rw [decide_eq_true hz] at hemp
        have HV : Hid (Q = (⟨4, l, [], m⟩, 0)) := Lib.hid (by rw [HD.out, lineC, ckOf, if_neg s0, if_neg s2, if_pos (dl_nil hz)])
        clear s0 s2
        have bcu : Box (W0.setCell ⟨g, 0, none⟩ (.int .i64 (4))) g 26 #[.int .i64 (4), .int .i64 (l), .string ⟨#[]⟩, .int .i64 (m)] := by
          have := (bc.set 0 (.int .i64 (4)))
          simpa using this
        have bru := (br.far (p := ⟨g, 0, none⟩) (by simp only; omega) (.int .i64 (4)))
        have hbu := Lib.hid (hbw.out.setCell (p := ⟨g, 0, none⟩) HG0.out (.int .i64 (4)))
        go_upto_region 5 with fail
        clear c0 c1 c2 c3 d0 d1 d2 d3 bc br hbw
        generalize (W0.setCell ⟨g, 0, none⟩ (.int .i64 (4))) = W2 at *
        obtain ⟨c0, c1, c2, c3⟩ := bcu.four
        have HQ := Lib.hid (bru.set4 (.int .i64 (4)) (.int .i64 (l)) (.string ⟨#[]⟩) (.int .i64 (m))).four
        have HW := Lib.hid (below_set4 hbu.out (g := g + 1) HG.out (.int .i64 (4)) (.int .i64 (l)) (.string ⟨#[]⟩) (.int .i64 (m)))
        obtain ⟨k0, k1, k2, k3⟩ := bru.four
        obtain ⟨f0, f1, f2, f3⟩ := bru.fourf
        go_wp2
        obtain ⟨q0, q1, q2, q3⟩ := HQ.out
        refine bodyPost_ret (v := .tuple #[.agg #[.int .i64 (4), .int .i64 (l), .string ⟨#[]⟩, .int .i64 (m)], .int .i64 (0)]) (by simp [results, Tryz.results82, go_sem, q0, q1, q2, q3]) rfl ?_
        exact ⟨by rw [HV.out], HW.out⟩
      · rw [decide_eq_false hz] at hemp
        have HE : Hid (Q = if (parse3 (dl x)).2.2 = 0 then (⟨s, l, [], m⟩, 0) else (⟨s, l, [], m⟩, 23)) := Lib.hid (by rw [HD.out, lineC, ckOf, if_neg s0, if_neg s2, if_neg (fun h => hz (by rw [← dl_len, h]; rfl))])
        clear s0 s2 hz
        go_wp2_with fail
        refine (rparse_any x hx _).mono ?_
        rintro e w2 ⟨a, b, cc, rfl, ha, hb, hc, hb2⟩
        rw [← hc] at HE
        clear ha hb hc
        go_upto_region 7 with fail
        have hd2 := bon hb2 (ba1 w2 (.cells #[.string a, .string b] 40))
        have bc3 := bc.up hd2
        have br3 := br.up hd2
        have hbw3 := Lib.hid (bon hbw.out hd2)
        obtain ⟨gq, hgq⟩ : ∃ g, w2.heap.size = g := ⟨_, rfl⟩
        rw [hgq]
        clear hgq c0 c1 c2 c3 d0 d1 d2 d3 bc br hbw hb2 hd2
        generalize w2.alloc (.cells #[.string a, .string b] 40) = W3 at *
        obtain ⟨c0, c1, c2, c3⟩ := bc3.four
        by_cases hcc : cc = 0
        · subst hcc
          have HV : Hid (Q = (⟨s, l, [], m⟩, 0)) := Lib.hid (by rw [HE.out, if_pos rfl])
          have HQ := Lib.hid (br3.set4 (.int .i64 (s)) (.int .i64 (l)) (.string ⟨#[]⟩) (.int .i64 (m))).four
          have HW := Lib.hid (below_set4 hbw3.out (g := g + 1) HG.out (.int .i64 (s)) (.int .i64 (l)) (.string ⟨#[]⟩) (.int .i64 (m)))
          obtain ⟨k0, k1, k2, k3⟩ := br3.four
          obtain ⟨f0, f1, f2, f3⟩ := br3.fourf
          go_wp2
          obtain ⟨q0, q1, q2, q3⟩ := HQ.out
          refine bodyPost_ret (v := .tuple #[.agg #[.int .i64 (s), .int .i64 (l), .string ⟨#[]⟩, .int .i64 (m)], .int .i64 (0)]) (by simp [results, Tryz.results82, go_sem, q0, q1, q2, q3]) rfl ?_
          exact ⟨by rw [HV.out], HW.out⟩
        · have HV : Hid (Q = (⟨s, l, [], m⟩, 23)) := Lib.hid (by rw [HE.out, if_neg hcc])
          have t0 : (cc != 0) = true := bne_iff_ne.2 hcc
          clear hcc
          have HQ := Lib.hid (br3.set4 (.int .i64 (s)) (.int .i64 (l)) (.string ⟨#[]⟩) (.int .i64 (m))).four
          have HW := Lib.hid (below_set4 hbw3.out (g := g + 1) HG.out (.int .i64 (s)) (.int .i64 (l)) (.string ⟨#[]⟩) (.int .i64 (m)))
          obtain ⟨k0, k1, k2, k3⟩ := br3.four
          obtain ⟨f0, f1, f2, f3⟩ := br3.fourf
          go_wp2
          obtain ⟨q0, q1, q2, q3⟩ := HQ.out
          refine bodyPost_ret (v := .tuple #[.agg #[.int .i64 (s), .int .i64 (l), .string ⟨#[]⟩, .int .i64 (m)], .int .i64 (23)]) (by simp [results, Tryz.results82, go_sem, q0, q1, q2, q3]) rfl ?_
          exact ⟨by rw [HV.out], HW.out⟩

end Go.Proofs.YtdlihfbaepjliaaGreatDoor

/-
  Chunks in a box of the call's own: what a call turns there, and what stays; the walks of chunk's own inBody, Right, passData, endChunk, passTrailer and beginChunk.
-/
namespace Go.Proofs.YtdlihfbaepjliaaGreatDoor
open Go.RowKit

/-- all blocks that were there, but one, are as they were -/
structure But (g : Nat) (w w' : World) : Prop where
  os : w'.os = w.os
  tape : w'.tape = w.tape
  output : w'.output = w.output
  size : w.heap.size ≤ w'.heap.size
  block : ∀ k, k < w.heap.size → k ≠ g → w'.heap[k]? = w.heap[k]?
theorem But.refl (g : Nat) (w : World) : But g w w := ⟨rfl, rfl, rfl, Nat.le_refl _, fun _ _ _ => rfl⟩
theorem But.on {g : Nat} {w w1 w2 : World} (h : But g w w1) (k : But g w1 w2) : But g w w2 :=
  ⟨k.os.trans h.os, k.tape.trans h.tape, k.output.trans h.output, Nat.le_trans h.size k.size, fun i hi hn => (k.block i (Nat.lt_of_lt_of_le hi h.size) hn).trans (h.block i hi hn)⟩
theorem But.of {g : Nat} {w w' : World} (h : Below w.heap.size w w') : But g w w' := ⟨h.os, h.tape, h.output, h.size, fun k hk _ => h.block k hk⟩
theorem But.set {g : Nat} {w w1 : World} (h : But g w w1) (i : Nat) (v : Value) : But g w (w1.setCell ⟨g, i, none⟩ v) :=
  h.on ⟨rfl, rfl, rfl, by simp [World.setCell], fun k _ hn => Below.heap_setCell _ _ _ _ hn⟩
theorem Box.but {w w' : World} {g k : Nat} {t : TypeId} {cs : Array Value} (h : Box w k t cs) (hb : But g w w') (hk : k ≠ g) : Box w' k t cs := (hb.block k h.lt hk).trans h
theorem Row.but {w w' : World} {B sz g : Nat} {e t : TypeId} {s : Sli} {cs : List Value} {ps : Array Value} (h : Row w B e sz s cs) (hb : But g w w') (hg : Box w g t ps) (ht : t ≠ e) : Row w' B e sz s cs :=
  h.keep fun k _ hk => hb.block k (Array.getElem?_eq_some_iff.1 hk).1 (box_ne hg hk ht)
theorem But.below {g B : Nat} {a w w' : World} (h : Below B a w) (hb : But g w w') (hB : B ≤ g) (hw : B ≤ w.heap.size) : Below B a w' :=
  h.trans ⟨hb.os, hb.tape, hb.output, hb.size, fun k hk => hb.block k (by omega) (by omega)⟩

/-- the chunks in the box are turned to those, and an error is handed back -/
def ActEnds (g : Nat) (q : Ck × Int) (w : World) (e : Ending) (w' : World) : Prop :=
  ∃ n : ByteArray, e = .returned (.int .i64 q.2) ∧ dl n = q.1.ln ∧ Box w' g 121 #[.int .i64 q.1.s, .int .i64 q.1.l, .string n, .int .i64 q.1.m] ∧ But g w w'

set_option maxHeartbeats 400000 in
theorem inBody_any (n : Int) (w : World) : Calls Tryz.prog 93 #[.int .i64 n] w fun e w' => e = .returned (.bool (decide (0 ≤ n ∧ n ≤ 4000))) ∧ w' = w := by
  have hc : (0 ≤ n ∧ n ≤ 4000) ∨ ¬ 0 ≤ n ∨ (0 ≤ n ∧ ¬ n ≤ 4000) := by omega
  obtain ⟨b, hb⟩ : ∃ b, decide (0 ≤ n ∧ n ≤ 4000) = b := ⟨_, rfl⟩
  rw [hb]
  have HB := Lib.hid hb.symm
  clear hb
  rcases hc with ⟨h1, h2⟩ | h1 | ⟨h1, h2⟩
  all_goals
    go_enter Tryz.func93, Tryz.ntmps93
    go_wp2
    go_ret
    exact ⟨ret_bool (by rw [HB.out]; first | exact (decide_eq_true (by omega)).symm | exact (decide_eq_false (by omega)).symm), rfl⟩

set_option maxHeartbeats 2000000 in
theorem cright_any (s l : Int) (ln : ByteArray) (m : Int) (w : World) : Calls Tryz.prog 74 #[.agg #[.int .i64 s, .int .i64 l, .string ln, .int .i64 m]] w (BoolEnds (decide (okC (ckOf s l ln m))) w) := by
  have hemp := isEmp (s := ln)
  have hb0 := ba1 w (.cells #[.int .i64 s, .int .i64 l, .string ln, .int .i64 m] 26)
  have bc := Box.new w 26 #[.int .i64 s, .int .i64 l, .string ln, .int .i64 m]
  obtain ⟨b, hb⟩ : ∃ b, decide (okC (ckOf s l ln m)) = b := ⟨_, rfl⟩
  rw [hb]
  have HB : Hid (b = decide (0 ≤ s ∧ s ≤ 4 ∧ 0 ≤ l ∧ l ≤ 4000 ∧ ln.size ≤ 200 ∧ 0 ≤ m ∧ m ≤ 4000 ∧ (s = 1 ↔ 0 < l) ∧ (ln.size = 0 ∨ (s ≠ 1 ∧ s ≠ 4)))) := Lib.hid (by
    rw [← hb, decide_eq_decide]
    simp only [okC, ckOf, dl_len]
    have : (dl ln = []) ↔ ln.size = 0 := by rw [← dl_len, List.length_eq_zero_iff]
    rw [this])
  clear hb
  obtain ⟨c0, c1, c2, c3⟩ := bc.four
  have hc1 : (s < 0) ∨ (¬ s < 0 ∧ 4 < s) ∨ (¬ s < 0 ∧ ¬ 4 < s ∧ 200 < ln.size) ∨ (¬ s < 0 ∧ ¬ 4 < s ∧ ¬ 200 < ln.size) := by omega
  go_enter Tryz.func74, Tryz.ntmps74
  rcases hc1 with h1 | ⟨h1, h2⟩ | ⟨h1, h2, h3⟩ | ⟨h1, h2, h3⟩
  · go_wp2
    go_ret
    exact ⟨ret_bool (by rw [HB.out, decide_eq_false (by omega)]), hb0⟩
  · go_wp2
    go_ret
    exact ⟨ret_bool (by rw [HB.out, decide_eq_false (by omega)]), hb0⟩
  · have h3i : (200 : Int) < (ln.size : Int) := by omega
    go_wp2
    go_ret
    exact ⟨ret_bool (by rw [HB.out, decide_eq_false (by omega)]), hb0⟩
  · have h3i : ¬ (200 : Int) < (ln.size : Int) := by omega
    go_wp2_with fail
    refine (inBody_any l _).mono ?_
    rintro e w1 ⟨rfl, rfl⟩
    by_cases hl : 0 ≤ l ∧ l ≤ 4000
    case neg =>
      rw [decide_eq_false hl]
      go_wp2
      go_ret
      exact ⟨ret_bool (by rw [HB.out, decide_eq_false (by omega)]), hb0⟩
    case pos =>
      rw [decide_eq_true hl]
      go_wp2_with fail
      refine (inBody_any m _).mono ?_
      rintro e w1 ⟨rfl, rfl⟩
      by_cases hm : 0 ≤ m ∧ m ≤ 4000
      case neg =>
        rw [decide_eq_false hm]
        go_wp2
        go_ret
        exact ⟨ret_bool (by rw [HB.out, decide_eq_false (by omega)]), hb0⟩
      case pos =>
        rw [decide_eq_true hm]
        by_cases s1 : s = 1
        · subst s1
          by_cases l0 : 0 < l
          · by_cases z : ln.size = 0
            · rw [decide_eq_true z] at hemp
              have HZ := Lib.hid (And.intro l0 z)
              go_wp2
              go_ret
              exact ⟨ret_bool (by rw [HB.out, decide_eq_true ⟨by omega, by omega, hl.1, hl.2, by omega, hm.1, hm.2, ⟨fun _ => HZ.out.1, fun _ => (by first | trivial | rfl)⟩, Or.inl HZ.out.2⟩]), hb0⟩
            · rw [decide_eq_false z] at hemp
              go_wp2
              go_ret
              exact ⟨ret_bool (by rw [HB.out, decide_eq_false (by omega)]), hb0⟩
          · obtain rfl : l = 0 := by omega
            have HF : Hid (b = false) := Lib.hid (by rw [HB.out, decide_eq_false (fun h => absurd (h.2.2.2.2.2.2.2.1.1 rfl) (by decide))])
            go_wp2
            go_ret
            exact ⟨ret_bool (by rw [HF.out]), hb0⟩
        · have s1b : (s == 1) = false := beq_eq_false_iff_ne.2 s1
          have s1c : (s != 1) = true := bne_iff_ne.2 s1
          by_cases l0 : 0 < l
          · go_wp2
            go_ret
            exact ⟨ret_bool (by rw [HB.out, decide_eq_false (by omega)]), hb0⟩
          · by_cases z : ln.size = 0
            · rw [decide_eq_true z] at hemp
              go_wp2
              go_ret
              exact ⟨ret_bool (by rw [HB.out, decide_eq_true (by omega)]), hb0⟩
            · rw [decide_eq_false z] at hemp
              by_cases s4 : s = 4
              · subst s4
                go_wp2
                go_ret
                exact ⟨ret_bool (by rw [HB.out, decide_eq_false (by omega)]), hb0⟩
              · have s4c : (s != 4) = true := bne_iff_ne.2 s4
                go_wp2
                go_ret
                exact ⟨ret_bool (by rw [HB.out, decide_eq_true (by omega)]), hb0⟩
end Go.Proofs.YtdlihfbaepjliaaGreatDoor

/-
  The walks of what chunk does with a line: passData, endChunk, passTrailer, beginChunk.
-/
namespace Go.Proofs.YtdlihfbaepjliaaGreatDoor
open Go.RowKit

section
variable {w : World} {g : Nat}
theorem set_a {s l : Int} {n : ByteArray} {m : Int} (h : Box w g 121 #[.int .i64 s, .int .i64 l, .string n, .int .i64 m]) (x : Int) : Box (w.setCell ⟨g, 0, none⟩ (.int .i64 x)) g 121 #[.int .i64 x, .int .i64 l, .string n, .int .i64 m] := by simpa using h.set 0 (.int .i64 x)
theorem set_b {s l : Int} {n : ByteArray} {m : Int} (h : Box w g 121 #[.int .i64 s, .int .i64 l, .string n, .int .i64 m]) (x : Int) : Box (w.setCell ⟨g, 1, none⟩ (.int .i64 x)) g 121 #[.int .i64 s, .int .i64 x, .string n, .int .i64 m] := by simpa using h.set 1 (.int .i64 x)
theorem set_c {s l : Int} {n : ByteArray} {m : Int} (h : Box w g 121 #[.int .i64 s, .int .i64 l, .string n, .int .i64 m]) (x : ByteArray) : Box (w.setCell ⟨g, 2, none⟩ (.string x)) g 121 #[.int .i64 s, .int .i64 l, .string x, .int .i64 m] := by simpa using h.set 2 (.string x)
theorem set_d {s l : Int} {n : ByteArray} {m : Int} (h : Box w g 121 #[.int .i64 s, .int .i64 l, .string n, .int .i64 m]) (x : Int) : Box (w.setCell ⟨g, 3, none⟩ (.int .i64 x)) g 121 #[.int .i64 s, .int .i64 l, .string n, .int .i64 x] := by simpa using h.set 3 (.int .i64 x)
end

/-- one byte of the data is counted -/
def PassEnds (g : Nat) (s l : Int) (n : ByteArray) (m : Int) (w : World) (e : Ending) (w' : World) : Prop :=
  e = .returned (.tuple #[]) ∧ Box w' g 121 #[.int .i64 s, .int .i64 l, .string n, .int .i64 m] ∧ But g w w'
set_option maxHeartbeats 1000000 in
theorem pass_any (g : Nat) (l : Int) (n : ByteArray) (m : Int) (w : World) (h : Box w g 121 #[.int .i64 1, .int .i64 l, .string n, .int .i64 m]) (hl : -9000 ≤ l ∧ l ≤ 9000) (hm : -9000 ≤ m ∧ m ≤ 9000) : Calls Tryz.prog 109 #[.pointer (some ⟨g, 0, none⟩)] w (PassEnds g (if l - 1 = 0 then 2 else 1) (l - 1) n (m + 1) w) := by
  have tl : IntKind.i64.wrap (l - 1) = l - 1 := IntWalk.i64_in _ (by omega)
  have tm : IntKind.i64.wrap (m + 1) = m + 1 := IntWalk.i64_in _ (by omega)
  by_cases z : l - 1 = 0
  · obtain rfl : l = 1 := by omega
    have HQ := Lib.hid (And.intro (set_a (set_d (set_b h 0) (m + 1)) 2) ((((But.refl g w).set 1 (.int .i64 0)).set 3 (.int .i64 (m + 1))).set 0 (.int .i64 2)))
    obtain ⟨c0, c1, c2, c3⟩ := h.four
    obtain ⟨d0, d1, d2, d3⟩ := h.fourf
    clear h
    go_enter Tryz.func109, Tryz.ntmps109
    go_wp2
    refine bodyPost_ret (v := .tuple #[]) (by simp [results, Tryz.results109, go_sem]) rfl ?_
    exact ⟨rfl, HQ.out.1, HQ.out.2⟩
  · have zb : (l - 1 == 0) = false := beq_eq_false_iff_ne.2 z
    rw [if_neg z]
    have HQ := Lib.hid (And.intro (set_d (set_b h (l - 1)) (m + 1)) (((But.refl g w).set 1 (.int .i64 (l - 1))).set 3 (.int .i64 (m + 1))))
    obtain ⟨c0, c1, c2, c3⟩ := h.four
    obtain ⟨d0, d1, d2, d3⟩ := h.fourf
    clear h
    go_enter Tryz.func109, Tryz.ntmps109
    go_wp2
    refine bodyPost_ret (v := .tuple #[]) (by simp [results, Tryz.results109, go_sem]) rfl ?_
    exact ⟨rfl, HQ.out.1, HQ.out.2⟩

set_option maxHeartbeats 1000000 in
theorem endc_any (g : Nat) (l m : Int) (x : ByteArray) (w : World) (h : Box w g 121 #[.int .i64 2, .int .i64 l, .string ⟨#[]⟩, .int .i64 m]) : Calls Tryz.prog 148 #[.pointer (some ⟨g, 0, none⟩), .string x] w (ActEnds g (lineC ⟨2, l, [], m⟩ (dl x)) w) := by
  have hemp := isEmp (s := x)
  by_cases z : x.size = 0
  · obtain rfl := emp_of z
    have HQ := Lib.hid (And.intro (set_a h 0) ((But.refl g w).set 0 (.int .i64 0)))
    obtain ⟨c0, c1, c2, c3⟩ := h.four
    obtain ⟨d0, d1, d2, d3⟩ := h.fourf
    clear h hemp
    go_enter Tryz.func148, Tryz.ntmps148
    go_wp2
    go_ret
    exact ⟨⟨#[]⟩, rfl, rfl, HQ.out.1, HQ.out.2⟩
  · rw [decide_eq_false z] at hemp
    have HV : Hid (lineC ⟨2, l, [], m⟩ (dl x) = (⟨2, l, [], m⟩, 23)) := Lib.hid (by
      unfold lineC
      rw [if_neg (show ¬ (2 : Int) = 0 by decide), if_pos rfl, if_neg (fun e => z (by rw [← dl_len, e]; rfl))])
    have HQ := Lib.hid h
    clear h
    go_enter Tryz.func148, Tryz.ntmps148
    go_wp2
    go_ret
    rw [HV.out]
    exact ⟨⟨#[]⟩, rfl, rfl, HQ.out, But.refl g w⟩

set_option maxHeartbeats 1000000 in
theorem trail_any (g : Nat) (l m : Int) (x : ByteArray) (hx : x.size ≤ 4096) (w : World) (h : Box w g 121 #[.int .i64 3, .int .i64 l, .string ⟨#[]⟩, .int .i64 m]) : Calls Tryz.prog 149 #[.pointer (some ⟨g, 0, none⟩), .string x] w (ActEnds g (lineC ⟨3, l, [], m⟩ (dl x)) w) := by
  have hemp := isEmp (s := x)
  by_cases z : x.size = 0
  · obtain rfl := emp_of z
    have HQ := Lib.hid (And.intro (set_a h 4) ((But.refl g w).set 0 (.int .i64 4)))
    obtain ⟨c0, c1, c2, c3⟩ := h.four
    obtain ⟨d0, d1, d2, d3⟩ := h.fourf
    clear h hemp
    go_enter Tryz.func149, Tryz.ntmps149
    go_wp2
    go_ret
    exact ⟨⟨#[]⟩, rfl, rfl, HQ.out.1, HQ.out.2⟩
  · rw [decide_eq_false z] at hemp
    have HV : Hid (lineC ⟨3, l, [], m⟩ (dl x) = if (parse3 (dl x)).2.2 = 0 then (⟨3, l, [], m⟩, 0) else (⟨3, l, [], m⟩, 23)) := Lib.hid (by
      unfold lineC
      rw [if_neg (show ¬ (3 : Int) = 0 by decide), if_neg (show ¬ (3 : Int) = 2 by decide), if_neg (fun e => z (by rw [← dl_len, e]; rfl))])
    have HP := Lib.hid (fun W => parse_any x hx W)
    have HQ := Lib.hid h
    clear h
    go_enter Tryz.func149, Tryz.ntmps149
    go_wp2_with fail
    refine (HP.out _).mono ?_
    rintro e w1 ⟨f, v, c, rfl, h1, h2, rfl, hb1⟩
    have HB := Lib.hid (bon hb1 (ba1 w1 (.cells #[.string f, .string v] 40)))
    clear h1 h2 hb1
    by_cases e0 : (parse3 (dl x)).2.2 = 0
    · have e1 : ((parse3 (dl x)).2.2 != 0) = false := by rw [e0]; rfl
      go_wp2
      go_ret
      rw [HV.out, if_pos e0]
      exact ⟨⟨#[]⟩, rfl, rfl, HQ.out.up HB.out, But.of HB.out⟩
    · have e1 : ((parse3 (dl x)).2.2 != 0) = true := bne_iff_ne.2 e0
      go_wp2
      go_ret
      rw [HV.out, if_neg e0]
      exact ⟨⟨#[]⟩, rfl, rfl, HQ.out.up HB.out, But.of HB.out⟩

set_option maxRecDepth 100000 in
set_option maxHeartbeats 2000000 in
theorem begin_any (g : Nat) (l m : Int) (x : ByteArray) (hx : x.size ≤ 4096) (hm : -9000 ≤ m ∧ m ≤ 9000) (w : World) (h : Box w g 121 #[.int .i64 0, .int .i64 l, .string ⟨#[]⟩, .int .i64 m]) : Calls Tryz.prog 147 #[.pointer (some ⟨g, 0, none⟩), .string x] w (ActEnds g (lineC ⟨0, l, [], m⟩ (dl x)) w) := by
  have hp := size_pos (dl x)
  have HV : Hid (lineC ⟨0, l, [], m⟩ (dl x) = if (sizeN (dl x)).2 ≠ 0 then (⟨0, l, [], m⟩, (sizeN (dl x)).2) else if 4000 - m < (sizeN (dl x)).1 then (⟨0, l, [], m⟩, 2) else (⟨if (sizeN (dl x)).1 = 0 then 3 else 1, (sizeN (dl x)).1, [], m⟩, 0)) := Lib.hid rfl
  obtain ⟨q, hq⟩ : ∃ q, parseN (trimL (befL 59 (dl x))) 16 = q := ⟨_, rfl⟩
  have hsz : sizeN (dl x) = if q.2 = 1 then (0, 23) else if q.2 ≠ 0 then (0, 2) else (q.1, 0) := by unfold sizeN; rw [hq]
  rw [hsz] at hp HV
  have HQ := Lib.hid hq
  have HBx := Lib.hid h
  clear hq hsz
  have HC := Lib.hid (fun W => cut_any 59 x hx W)
  go_enter Tryz.func147, Tryz.ntmps147
  go_wp2_with fail
  refine (HC.out _).mono ?_
  rintro e w1 ⟨a, b, rfl, ha, hb, hb1⟩
  have has : a.size ≤ 4096 := by
    have h2 := (cut_len 59 (dl x)).1
    rw [← ha, dl_len, dl_len] at h2
    omega
  have HA := Lib.hid ha
  clear ha hb HC
  obtain ⟨bf, hbf⟩ : ∃ b, (dl x).contains 59 = b := ⟨_, rfl⟩
  rw [hbf]
  clear hbf
  go_wp2_with fail
  refine (trim_any a has _).mono ?_
  rintro e w2 ⟨t, rfl, ht, hb2⟩
  have hts : t.size ≤ maxLen := by
    have h2 := trim_len (dl a)
    rw [← ht, dl_len, dl_len] at h2
    unfold maxLen
    omega
  have HP := Lib.hid (fun W => Nm.parse_any t 16 W hts)
  have hdt : t.data.toList = trimL (befL 59 (dl x)) := by
    have e : dl t = trimL (befL 59 (dl x)) := by rw [ht, HA.out]
    exact e
  rw [hdt, HQ.out] at HP
  have HB := Lib.hid (bon hb1 hb2)
  clear ht hdt hb1 hb2 hts HA HQ
  go_wp2_with fail
  refine (HP.out _).mono ?_
  rintro e w3 ⟨rfl, hw⟩
  have HB3 : Hid (Below w.heap.size w w3) := by first | (subst hw; exact HB) | exact Lib.hid (bon HB.out hw)
  clear hw HB HP
  have bx := HBx.out.up HB3.out
  obtain ⟨v, er⟩ := q
  simp only at HV hp ⊢
  have t4 : IntKind.i64.wrap (4000 - m) = 4000 - m := IntWalk.i64_in _ (by omega)
  obtain ⟨c0, c1, c2, c3⟩ := bx.four
  obtain ⟨d0, d1, d2, d3⟩ := bx.fourf
  by_cases e1 : er = 1
  · subst e1
    have HV2 : Hid (lineC ⟨0, l, [], m⟩ (dl x) = (⟨0, l, [], m⟩, 23)) := Lib.hid (by rw [HV.out]; simp)
    have HX := Lib.hid bx
    clear bx HV hp
    go_wp2
    go_ret
    rw [HV2.out]
    exact ⟨⟨#[]⟩, rfl, rfl, HX.out, But.of HB3.out⟩
  · have e1b : (er == 1) = false := beq_eq_false_iff_ne.2 e1
    rw [if_neg e1] at HV hp
    by_cases e0 : er = 0
    · subst e0
      rw [if_neg (by simp)] at HV hp
      simp only at HV hp
      have HV1 : Hid (lineC ⟨0, l, [], m⟩ (dl x) = if 4000 - m < v then (⟨0, l, [], m⟩, 2) else (⟨if v = 0 then 3 else 1, v, [], m⟩, 0)) := Lib.hid (by have e := HV.out; simpa using e)
      clear HV e1 e1b
      by_cases hbig : 4000 - m < v
      · have HV2 : Hid (lineC ⟨0, l, [], m⟩ (dl x) = (⟨0, l, [], m⟩, 2)) := Lib.hid (by rw [HV1.out, if_pos hbig])
        have HX := Lib.hid bx
        clear bx HV1
        go_wp2
        go_ret
        rw [HV2.out]
        exact ⟨⟨#[]⟩, rfl, rfl, HX.out, But.of HB3.out⟩
      · by_cases z : v = 0
        · subst z
          have HV2 : Hid (lineC ⟨0, l, [], m⟩ (dl x) = (⟨3, 0, [], m⟩, 0)) := Lib.hid (by rw [HV1.out, if_neg hbig]; rfl)
          have HX := Lib.hid (And.intro (set_a (set_a (set_b bx 0) 1) 3) ((((But.of HB3.out : But g w w3).set 1 (.int .i64 0)).set 0 (.int .i64 1)).set 0 (.int .i64 3)))
          have HX2 := Lib.hid (And.intro (set_a (set_b bx 0) 3) (((But.of HB3.out : But g w w3).set 1 (.int .i64 0)).set 0 (.int .i64 3)))
          clear bx HV1
          go_wp2
          go_ret
          rw [HV2.out]
          first | exact ⟨⟨#[]⟩, rfl, rfl, HX.out.1, HX.out.2⟩ | exact ⟨⟨#[]⟩, rfl, rfl, HX2.out.1, HX2.out.2⟩
        · have zb : (v == 0) = false := beq_eq_false_iff_ne.2 z
          have HV2 : Hid (lineC ⟨0, l, [], m⟩ (dl x) = (⟨1, v, [], m⟩, 0)) := Lib.hid (by rw [HV1.out, if_neg hbig, if_neg z])
          have HX := Lib.hid (And.intro (set_a (set_b bx v) 1) (((But.of HB3.out : But g w w3).set 1 (.int .i64 v)).set 0 (.int .i64 1)))
          clear bx HV1 z
          go_wp2
          go_ret
          rw [HV2.out]
          exact ⟨⟨#[]⟩, rfl, rfl, HX.out.1, HX.out.2⟩
    · have e0b : (er != 0) = true := bne_iff_ne.2 e0
      rw [if_pos e0] at HV hp
      simp only at HV hp
      have HV2 : Hid (lineC ⟨0, l, [], m⟩ (dl x) = (⟨0, l, [], m⟩, 2)) := Lib.hid (by have e := HV.out; simpa using e)
      have HX := Lib.hid bx
      clear bx HV e0 e1
      go_wp2
      go_ret
      rw [HV2.out]
      exact ⟨⟨#[]⟩, rfl, rfl, HX.out, But.of HB3.out⟩
end Go.Proofs.YtdlihfbaepjliaaGreatDoor
