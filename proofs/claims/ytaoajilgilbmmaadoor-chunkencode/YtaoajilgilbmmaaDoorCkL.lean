/-
  The walk of the document's own line.
-/
import Derived.Test.YtaoajilgilbmmaaDoorCkA
namespace Go.Proofs.YtaoajilgilbmmaaDoor
open Go.RowKit

/-- a line's chunks and its error are handed back -/
def LineEnds (q : Ck × Int) (w : World) (e : Ending) (w' : World) : Prop := e = .returned (.tuple #[.agg #[.int .i64 q.1.s, .int .i64 q.1.l, .string ⟨#[]⟩, .int .i64 q.1.m], .int .i64 q.2]) ∧ Below w.heap.size w w'

set_option maxRecDepth 100000 in
set_option maxHeartbeats 4000000 in
theorem rckline_any (s l : Int) (ln : ByteArray) (m : Int) (x : ByteArray) (hx : x.size ≤ 4096) (hm : -9000 ≤ m) (hm2 : m ≤ 9000) (w : World) : Calls Tryd.prog 18 #[.agg #[.int .i64 s, .int .i64 l, .string ln, .int .i64 m], .string x] w (LineEnds (lineC (ckOf s l ln m) (dl x)) w) := by
  obtain ⟨Q, hQ⟩ : ∃ Q, lineC (ckOf s l ln m) (dl x) = Q := ⟨_, rfl⟩
  rw [hQ]
  have HD := Lib.hid hQ.symm
  clear hQ
  have hemp := isEmp (s := x)
  have hb0 := ba2 w (.cells #[.int .i64 s, .int .i64 l, .string ⟨#[]⟩, .int .i64 m] 23) (.cells #[.int .i64 0, .int .i64 0, .string ⟨#[]⟩, .int .i64 0] 23)
  have bc := (Box.new w 23 #[.int .i64 s, .int .i64 l, .string ⟨#[]⟩, .int .i64 m]).alloc (.cells #[.int .i64 0, .int .i64 0, .string ⟨#[]⟩, .int .i64 0] 23)
  have br := Box.mk' (w.alloc (.cells #[.int .i64 s, .int .i64 l, .string ⟨#[]⟩, .int .i64 m] 23)) 23 #[.int .i64 0, .int .i64 0, .string ⟨#[]⟩, .int .i64 0] (w.heap.size + 1) (by simp)
  go_enter Tryd.func18, Tryd.ntmps18
  go_upto_region 2 with fail
  obtain ⟨g, hg⟩ : ∃ g, w.heap.size = g := ⟨_, rfl⟩
  rw [hg] at bc br ⊢
  have HG : Hid (w.heap.size ≤ g + 1) := Lib.hid (by omega)
  have HG0 : Hid (w.heap.size ≤ g) := Lib.hid (by omega)
  clear hg
  have hbw := Lib.hid hb0
  clear hb0
  generalize (w.alloc (.cells #[.int .i64 s, .int .i64 l, .string ⟨#[]⟩, .int .i64 m] 23)).alloc (.cells #[.int .i64 0, .int .i64 0, .string ⟨#[]⟩, .int .i64 0] 23) = W0 at *
  obtain ⟨c0, c1, c2, c3⟩ := bc.four
  obtain ⟨d0, d1, d2, d3⟩ := bc.fourf
  by_cases s0 : s = 0
  · subst s0
    have HE : Hid (Q = if (sizeN (dl x)).2 ≠ 0 then (⟨0, l, [], m⟩, (sizeN (dl x)).2) else if 4000 - m < (sizeN (dl x)).1 then (⟨0, l, [], m⟩, 2) else (⟨if (sizeN (dl x)).1 = 0 then 3 else 1, (sizeN (dl x)).1, [], m⟩, 0)) := Lib.hid (by rw [HD.out, lineC, ckOf]; rfl)
    have HSz := Lib.hid (fun W => rcksize_any x hx W)
    have hp := size_pos (dl x)
    obtain ⟨p, hpq⟩ : ∃ p, sizeN (dl x) = p := ⟨_, rfl⟩
    rw [hpq] at HE hp
    have HS2 : Hid (∀ W, Calls Tryd.prog 26 #[.string x] W fun e w' => e = .returned (.tuple #[.int .i64 p.1, .int .i64 p.2]) ∧ w' = W) := Lib.hid (fun W => by rw [← hpq]; exact HSz.out W)
    clear hpq HSz HD
    obtain ⟨v, er⟩ := p
    simp only at HE hp HS2
    have t4 : IntKind.i64.wrap (4000 - m) = 4000 - m := IntWalk.i64_in _ (by omega)
    go_wp2_with fail
    refine (HS2.out _).mono ?_
    rintro e w1 ⟨rfl, rfl⟩
    by_cases e0 : er = 0
    · subst e0
      by_cases hbig : 4000 - m < v
      · have HV : Hid (Q = (⟨0, l, [], m⟩, 2)) := Lib.hid (by rw [HE.out, if_neg (by simp), if_pos hbig])
        have HQ := Lib.hid (br.set4 (.int .i64 (0)) (.int .i64 (l)) (.string ⟨#[]⟩) (.int .i64 (m))).four
        have HW := Lib.hid (below_set4 hbw.out (g := g + 1) HG.out (.int .i64 (0)) (.int .i64 (l)) (.string ⟨#[]⟩) (.int .i64 (m)))
        obtain ⟨k0, k1, k2, k3⟩ := br.four
        obtain ⟨f0, f1, f2, f3⟩ := br.fourf
        go_wp2
        obtain ⟨q0, q1, q2, q3⟩ := HQ.out
        refine bodyPost_ret (v := .tuple #[.agg #[.int .i64 (0), .int .i64 (l), .string ⟨#[]⟩, .int .i64 (m)], .int .i64 (2)]) (by simp [results, Tryd.results18, go_sem, q0, q1, q2, q3]) rfl ?_
        exact ⟨by rw [HV.out], HW.out⟩
      · by_cases hv : v = 0
        · subst hv
          have HV : Hid (Q = (⟨3, 0, [], m⟩, 0)) := Lib.hid (by rw [HE.out, if_neg (by simp), if_neg hbig, if_pos rfl])
          have bcu : Box (((w1.setCell ⟨g, 0, none⟩ (.int .i64 (1))).setCell ⟨g, 1, none⟩ (.int .i64 (0))).setCell ⟨g, 0, none⟩ (.int .i64 (3))) g 23 #[.int .i64 (3), .int .i64 (0), .string ⟨#[]⟩, .int .i64 (m)] := by
            have := (((bc.set 0 (.int .i64 (1))).set 1 (.int .i64 (0))).set 0 (.int .i64 (3)))
            simpa using this
          have bru := (((br.far (p := ⟨g, 0, none⟩) (by simp only; omega) (.int .i64 (1))).far (p := ⟨g, 1, none⟩) (by simp only; omega) (.int .i64 (0))).far (p := ⟨g, 0, none⟩) (by simp only; omega) (.int .i64 (3)))
          have hbu := Lib.hid (((hbw.out.setCell (p := ⟨g, 0, none⟩) HG0.out (.int .i64 (1))).setCell (p := ⟨g, 1, none⟩) HG0.out (.int .i64 (0))).setCell (p := ⟨g, 0, none⟩) HG0.out (.int .i64 (3)))
          go_upto_region 23 with fail
          clear c0 c1 c2 c3 d0 d1 d2 d3 bc br hbw
          generalize (((w1.setCell ⟨g, 0, none⟩ (.int .i64 (1))).setCell ⟨g, 1, none⟩ (.int .i64 (0))).setCell ⟨g, 0, none⟩ (.int .i64 (3))) = W2 at *
          obtain ⟨c0, c1, c2, c3⟩ := bcu.four
          have HQ := Lib.hid (bru.set4 (.int .i64 (3)) (.int .i64 (0)) (.string ⟨#[]⟩) (.int .i64 (m))).four
          have HW := Lib.hid (below_set4 hbu.out (g := g + 1) HG.out (.int .i64 (3)) (.int .i64 (0)) (.string ⟨#[]⟩) (.int .i64 (m)))
          obtain ⟨k0, k1, k2, k3⟩ := bru.four
          obtain ⟨f0, f1, f2, f3⟩ := bru.fourf
          go_wp2
          obtain ⟨q0, q1, q2, q3⟩ := HQ.out
          refine bodyPost_ret (v := .tuple #[.agg #[.int .i64 (3), .int .i64 (0), .string ⟨#[]⟩, .int .i64 (m)], .int .i64 (0)]) (by simp [results, Tryd.results18, go_sem, q0, q1, q2, q3]) rfl ?_
          exact ⟨by rw [HV.out], HW.out⟩
        · have HV : Hid (Q = (⟨1, v, [], m⟩, 0)) := Lib.hid (by rw [HE.out, if_neg (by simp), if_neg hbig, if_neg hv])
          have hvb : (v == 0) = false := beq_eq_false_iff_ne.2 hv
          clear hv
          have bcu : Box ((w1.setCell ⟨g, 0, none⟩ (.int .i64 (1))).setCell ⟨g, 1, none⟩ (.int .i64 (v))) g 23 #[.int .i64 (1), .int .i64 (v), .string ⟨#[]⟩, .int .i64 (m)] := by
            have := ((bc.set 0 (.int .i64 (1))).set 1 (.int .i64 (v)))
            simpa using this
          have bru := ((br.far (p := ⟨g, 0, none⟩) (by simp only; omega) (.int .i64 (1))).far (p := ⟨g, 1, none⟩) (by simp only; omega) (.int .i64 (v)))
          have hbu := Lib.hid ((hbw.out.setCell (p := ⟨g, 0, none⟩) HG0.out (.int .i64 (1))).setCell (p := ⟨g, 1, none⟩) HG0.out (.int .i64 (v)))
          go_upto_region 23 with fail
          clear c0 c1 c2 c3 d0 d1 d2 d3 bc br hbw
          generalize ((w1.setCell ⟨g, 0, none⟩ (.int .i64 (1))).setCell ⟨g, 1, none⟩ (.int .i64 (v))) = W2 at *
          obtain ⟨c0, c1, c2, c3⟩ := bcu.four
          have HQ := Lib.hid (bru.set4 (.int .i64 (1)) (.int .i64 (v)) (.string ⟨#[]⟩) (.int .i64 (m))).four
          have HW := Lib.hid (below_set4 hbu.out (g := g + 1) HG.out (.int .i64 (1)) (.int .i64 (v)) (.string ⟨#[]⟩) (.int .i64 (m)))
          obtain ⟨k0, k1, k2, k3⟩ := bru.four
          obtain ⟨f0, f1, f2, f3⟩ := bru.fourf
          go_wp2
          obtain ⟨q0, q1, q2, q3⟩ := HQ.out
          refine bodyPost_ret (v := .tuple #[.agg #[.int .i64 (1), .int .i64 (v), .string ⟨#[]⟩, .int .i64 (m)], .int .i64 (0)]) (by simp [results, Tryd.results18, go_sem, q0, q1, q2, q3]) rfl ?_
          exact ⟨by rw [HV.out], HW.out⟩
    · have HV : Hid (Q = (⟨0, l, [], m⟩, er)) := Lib.hid (by rw [HE.out, if_pos e0])
      have t0 : (er != 0) = true := bne_iff_ne.2 e0
      have t1 : (er == 0) = false := beq_eq_false_iff_ne.2 e0
      have HQ := Lib.hid (br.set4 (.int .i64 (0)) (.int .i64 (l)) (.string ⟨#[]⟩) (.int .i64 (m))).four
      have HW := Lib.hid (below_set4 hbw.out (g := g + 1) HG.out (.int .i64 (0)) (.int .i64 (l)) (.string ⟨#[]⟩) (.int .i64 (m)))
      obtain ⟨k0, k1, k2, k3⟩ := br.four
      obtain ⟨f0, f1, f2, f3⟩ := br.fourf
      go_wp2
      obtain ⟨q0, q1, q2, q3⟩ := HQ.out
      refine bodyPost_ret (v := .tuple #[.agg #[.int .i64 (0), .int .i64 (l), .string ⟨#[]⟩, .int .i64 (m)], .int .i64 (er)]) (by simp [results, Tryd.results18, go_sem, q0, q1, q2, q3]) rfl ?_
      exact ⟨by rw [HV.out], HW.out⟩
  · have s0b : (s == 0) = false := beq_eq_false_iff_ne.2 s0
    by_cases s2 : s = 2
    · subst s2
      by_cases hz : x.size = 0
      · rw [decide_eq_true hz] at hemp
        have HV : Hid (Q = (⟨0, l, [], m⟩, 0)) := Lib.hid (by rw [HD.out, lineC, ckOf, if_neg s0, if_pos rfl, if_pos (dl_nil hz)])
        clear s0
        have bcu : Box (W0.setCell ⟨g, 0, none⟩ (.int .i64 (0))) g 23 #[.int .i64 (0), .int .i64 (l), .string ⟨#[]⟩, .int .i64 (m)] := by
          have := (bc.set 0 (.int .i64 (0)))
          simpa using this
        have bru := (br.far (p := ⟨g, 0, none⟩) (by simp only; omega) (.int .i64 (0)))
        have hbu := Lib.hid (hbw.out.setCell (p := ⟨g, 0, none⟩) HG0.out (.int .i64 (0)))
        go_upto_region 23 with fail
        clear c0 c1 c2 c3 d0 d1 d2 d3 bc br hbw
        generalize (W0.setCell ⟨g, 0, none⟩ (.int .i64 (0))) = W2 at *
        obtain ⟨c0, c1, c2, c3⟩ := bcu.four
        have HQ := Lib.hid (bru.set4 (.int .i64 (0)) (.int .i64 (l)) (.string ⟨#[]⟩) (.int .i64 (m))).four
        have HW := Lib.hid (below_set4 hbu.out (g := g + 1) HG.out (.int .i64 (0)) (.int .i64 (l)) (.string ⟨#[]⟩) (.int .i64 (m)))
        obtain ⟨k0, k1, k2, k3⟩ := bru.four
        obtain ⟨f0, f1, f2, f3⟩ := bru.fourf
        go_wp2
        obtain ⟨q0, q1, q2, q3⟩ := HQ.out
        refine bodyPost_ret (v := .tuple #[.agg #[.int .i64 (0), .int .i64 (l), .string ⟨#[]⟩, .int .i64 (m)], .int .i64 (0)]) (by simp [results, Tryd.results18, go_sem, q0, q1, q2, q3]) rfl ?_
        exact ⟨by rw [HV.out], HW.out⟩
      · rw [decide_eq_false hz] at hemp
        have HV : Hid (Q = (⟨2, l, [], m⟩, 23)) := Lib.hid (by rw [HD.out, lineC, ckOf, if_neg s0, if_pos rfl, if_neg (fun h => hz (by rw [← dl_len, h]; rfl))])
        clear s0
        have HQ := Lib.hid (br.set4 (.int .i64 (2)) (.int .i64 (l)) (.string ⟨#[]⟩) (.int .i64 (m))).four
        have HW := Lib.hid (below_set4 hbw.out (g := g + 1) HG.out (.int .i64 (2)) (.int .i64 (l)) (.string ⟨#[]⟩) (.int .i64 (m)))
        obtain ⟨k0, k1, k2, k3⟩ := br.four
        obtain ⟨f0, f1, f2, f3⟩ := br.fourf
        go_wp2
        obtain ⟨q0, q1, q2, q3⟩ := HQ.out
        refine bodyPost_ret (v := .tuple #[.agg #[.int .i64 (2), .int .i64 (l), .string ⟨#[]⟩, .int .i64 (m)], .int .i64 (23)]) (by simp [results, Tryd.results18, go_sem, q0, q1, q2, q3]) rfl ?_
        exact ⟨by rw [HV.out], HW.out⟩
    · have s2b : (s == 2) = false := beq_eq_false_iff_ne.2 s2
      by_cases hz : x.size = 0
      · rw [decide_eq_true hz] at hemp
        have HV : Hid (Q = (⟨4, l, [], m⟩, 0)) := Lib.hid (by rw [HD.out, lineC, ckOf, if_neg s0, if_neg s2, if_pos (dl_nil hz)])
        clear s0 s2
        have bcu : Box (W0.setCell ⟨g, 0, none⟩ (.int .i64 (4))) g 23 #[.int .i64 (4), .int .i64 (l), .string ⟨#[]⟩, .int .i64 (m)] := by
          have := (bc.set 0 (.int .i64 (4)))
          simpa using this
        have bru := (br.far (p := ⟨g, 0, none⟩) (by simp only; omega) (.int .i64 (4)))
        have hbu := Lib.hid (hbw.out.setCell (p := ⟨g, 0, none⟩) HG0.out (.int .i64 (4)))
        go_upto_region 5 with fail
        clear c0 c1 c2 c3 d0 d1 d2 d3 bc br hbw
        generalize (W0.setCell ⟨g, 0, none⟩ (.int .i64 (4))) = W2 at *
        obtain ⟨c0, c1, c2, c3⟩ := bcu.four
        have HQ := Lib.hid (bru.set4 (.int .i64 (4)) (.int .i64 (l)) (.string ⟨#[]⟩) (.int .i64 (m))).four
        have HW := Lib.hid (below_set4 hbu.out (g := g + 1) HG.out (.int .i64 (4)) (.int .i64 (l)) (.string ⟨#[]⟩) (.int .i64 (m)))
        obtain ⟨k0, k1, k2, k3⟩ := bru.four
        obtain ⟨f0, f1, f2, f3⟩ := bru.fourf
        go_wp2
        obtain ⟨q0, q1, q2, q3⟩ := HQ.out
        refine bodyPost_ret (v := .tuple #[.agg #[.int .i64 (4), .int .i64 (l), .string ⟨#[]⟩, .int .i64 (m)], .int .i64 (0)]) (by simp [results, Tryd.results18, go_sem, q0, q1, q2, q3]) rfl ?_
        exact ⟨by rw [HV.out], HW.out⟩
      · rw [decide_eq_false hz] at hemp
        have HE : Hid (Q = if (parse3 (dl x)).2.2 = 0 then (⟨s, l, [], m⟩, 0) else (⟨s, l, [], m⟩, 23)) := Lib.hid (by rw [HD.out, lineC, ckOf, if_neg s0, if_neg s2, if_neg (fun h => hz (by rw [← dl_len, h]; rfl))])
        clear s0 s2 hz
        go_wp2_with fail
        refine (rparse_any x hx _).mono ?_
        rintro e w2 ⟨a, b, cc, rfl, ha, hb, hc, hb2⟩
        rw [← hc] at HE
        clear ha hb hc
        go_upto_region 7 with fail
        have hd2 := bon hb2 (ba1 w2 (.cells #[.string a, .string b] 59))
        have bc3 := bc.up hd2
        have br3 := br.up hd2
        have hbw3 := Lib.hid (bon hbw.out hd2)
        obtain ⟨gq, hgq⟩ : ∃ g, w2.heap.size = g := ⟨_, rfl⟩
        rw [hgq]
        clear hgq c0 c1 c2 c3 d0 d1 d2 d3 bc br hbw hb2 hd2
        generalize w2.alloc (.cells #[.string a, .string b] 59) = W3 at *
        obtain ⟨c0, c1, c2, c3⟩ := bc3.four
        by_cases hcc : cc = 0
        · subst hcc
          have HV : Hid (Q = (⟨s, l, [], m⟩, 0)) := Lib.hid (by rw [HE.out, if_pos rfl])
          have HQ := Lib.hid (br3.set4 (.int .i64 (s)) (.int .i64 (l)) (.string ⟨#[]⟩) (.int .i64 (m))).four
          have HW := Lib.hid (below_set4 hbw3.out (g := g + 1) HG.out (.int .i64 (s)) (.int .i64 (l)) (.string ⟨#[]⟩) (.int .i64 (m)))
          obtain ⟨k0, k1, k2, k3⟩ := br3.four
          obtain ⟨f0, f1, f2, f3⟩ := br3.fourf
          go_wp2
          obtain ⟨q0, q1, q2, q3⟩ := HQ.out
          refine bodyPost_ret (v := .tuple #[.agg #[.int .i64 (s), .int .i64 (l), .string ⟨#[]⟩, .int .i64 (m)], .int .i64 (0)]) (by simp [results, Tryd.results18, go_sem, q0, q1, q2, q3]) rfl ?_
          exact ⟨by rw [HV.out], HW.out⟩
        · have HV : Hid (Q = (⟨s, l, [], m⟩, 23)) := Lib.hid (by rw [HE.out, if_neg hcc])
          have t0 : (cc != 0) = true := bne_iff_ne.2 hcc
          clear hcc
          have HQ := Lib.hid (br3.set4 (.int .i64 (s)) (.int .i64 (l)) (.string ⟨#[]⟩) (.int .i64 (m))).four
          have HW := Lib.hid (below_set4 hbw3.out (g := g + 1) HG.out (.int .i64 (s)) (.int .i64 (l)) (.string ⟨#[]⟩) (.int .i64 (m)))
          obtain ⟨k0, k1, k2, k3⟩ := br3.four
          obtain ⟨f0, f1, f2, f3⟩ := br3.fourf
          go_wp2
          obtain ⟨q0, q1, q2, q3⟩ := HQ.out
          refine bodyPost_ret (v := .tuple #[.agg #[.int .i64 (s), .int .i64 (l), .string ⟨#[]⟩, .int .i64 (m)], .int .i64 (23)]) (by simp [results, Tryd.results18, go_sem, q0, q1, q2, q3]) rfl ?_
          exact ⟨by rw [HV.out], HW.out⟩

end Go.Proofs.YtaoajilgilbmmaaDoor
