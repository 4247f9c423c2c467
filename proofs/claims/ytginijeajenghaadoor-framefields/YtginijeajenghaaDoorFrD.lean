/-
  The walks of frame's own orElse, bare, Request and Answer.
-/
import Derived.Test.YtginijeajenghaaDoorFrB
import Derived.Test.YtginijeajenghaaDoorHdC
namespace Go.Proofs.YtginijeajenghaaDoor
open Go.RowKit

/-- f, or a frame of that kind -/
def orN (a b k : Int) : Int × Int := if a = 0 ∧ b = 0 then (k, 0) else (a, b)
set_option maxRecDepth 100000 in
set_option maxHeartbeats 2000000 in
theorem orElse_any (a b k : Int) (w : World) : Calls Tryd.prog 23 #[.agg #[.int .i64 a, .int .i64 b], .int .i64 k] w fun e w' => e = .returned (.agg #[.int .i64 (orN a b k).1, .int .i64 (orN a b k).2]) ∧ Below w.heap.size w w' := by
  obtain ⟨Q, hQ⟩ : ∃ Q, orN a b k = Q := ⟨_, rfl⟩
  rw [hQ]
  have HD := Lib.hid hQ.symm
  clear hQ
  by_cases hz : a = 0 ∧ b = 0
  · have HV : Hid (Q = (k, 0)) := Lib.hid (by rw [HD.out, orN, if_pos hz])
    obtain ⟨rfl, rfl⟩ := hz
    have hb := ba2 w (.cells #[.int .i64 0, .int .i64 0] 38) (.cells #[.int .i64 k, .int .i64 0] 38)
    obtain ⟨q0, q1, _, _⟩ := Fr2 (Box.mk' (w.alloc (.cells #[.int .i64 0, .int .i64 0] 38)) 38 #[.int .i64 k, .int .i64 0] (w.heap.size + 1) (by simp))
    go_enter Tryd.func23, Tryd.ntmps23
    go_wp2
    refine bodyPost_ret (v := .agg #[.int .i64 k, .int .i64 0]) (by simp [results, Tryd.results23, go_sem, q0, q1]) rfl ?_
    exact ⟨by rw [HV.out], hb⟩
  · have HV : Hid (Q = (a, b)) := Lib.hid (by rw [HD.out, orN, if_neg hz])
    have hb := ba2 w (.cells #[.int .i64 a, .int .i64 b] 38) (.cells #[.int .i64 a, .int .i64 b] 38)
    obtain ⟨q0, q1, _, _⟩ := Fr2 (Box.mk' (w.alloc (.cells #[.int .i64 a, .int .i64 b] 38)) 38 #[.int .i64 a, .int .i64 b] (w.heap.size + 1) (by simp))
    have hcase : (a == 0) = false ∨ ((a == 0) = true ∧ (b == 0) = false) := by
      by_cases ha : a = 0
      · exact .inr ⟨beq_iff_eq.2 ha, beq_eq_false_iff_ne.2 (fun hb => hz ⟨ha, hb⟩)⟩
      · exact .inl (beq_eq_false_iff_ne.2 ha)
    clear hz HD
    rcases hcase with h1 | ⟨h1, h2⟩
    all_goals
      go_enter Tryd.func23, Tryd.ntmps23
      go_wp2
      refine bodyPost_ret (v := .agg #[.int .i64 a, .int .i64 b]) (by simp [results, Tryd.results23, go_sem, q0, q1]) rfl ?_
      exact ⟨by rw [HV.out], hb⟩

set_option maxHeartbeats 2000000 in
theorem bare_any (st : Int) (mt : ByteArray) (w : World) : Calls Tryd.prog 30 #[.int .i64 st, .string mt] w fun e w' => e = .returned (.bool (bareB st (dl mt))) ∧ w' = w := by
  obtain ⟨bx, hbx⟩ : ∃ x, bareB st (dl mt) = x := ⟨_, rfl⟩
  rw [hbx]
  have hcase : (dl mt = [72, 69, 65, 68] ∧ bx = true) ∨ (dl mt ≠ [72, 69, 65, 68] ∧ st < 200 ∧ bx = true) ∨ (dl mt ≠ [72, 69, 65, 68] ∧ ¬ st < 200 ∧ st = 204 ∧ bx = true) ∨ (dl mt ≠ [72, 69, 65, 68] ∧ ¬ st < 200 ∧ ¬ st = 204 ∧ st = 304 ∧ bx = true) ∨ (dl mt ≠ [72, 69, 65, 68] ∧ ¬ st < 200 ∧ ¬ st = 204 ∧ ¬ st = 304 ∧ bx = false) := by
    rw [← hbx, bareB]
    by_cases h1 : dl mt = [72, 69, 65, 68]
    · simp [h1]
    · by_cases h2 : st < 200
      · simp [h1, h2]
      · by_cases h3 : st = 204
        · simp_all
        · by_cases h4 : st = 304
          · simp_all
          · simp_all
  clear hbx
  rcases hcase with ⟨h1, rfl⟩ | ⟨h1, h2, rfl⟩ | ⟨h1, h2, h3, rfl⟩ | ⟨h1, h2, h3, h4, rfl⟩ | ⟨h1, h2, h3, h4, rfl⟩
  · obtain rfl : mt = ⟨#[72, 69, 65, 68]⟩ := dl_inj h1
    clear h1
    go_enter Tryd.func30, Tryd.ntmps30
    go_wp2
    go_ret
    exact ⟨by rfl, rfl⟩
  · have hrs : (mt.toList == [72, 69, 65, 68]) = false := tl_lit h1
    clear h1
    go_enter Tryd.func30, Tryd.ntmps30
    go_wp2
    go_ret
    exact ⟨by rfl, rfl⟩
  · have hrs : (mt.toList == [72, 69, 65, 68]) = false := tl_lit h1
    subst h3
    clear h1
    go_enter Tryd.func30, Tryd.ntmps30
    go_wp2
    go_ret
    exact ⟨by rfl, rfl⟩
  · have hrs : (mt.toList == [72, 69, 65, 68]) = false := tl_lit h1
    subst h4
    clear h1 h3
    go_enter Tryd.func30, Tryd.ntmps30
    go_wp2
    go_ret
    exact ⟨by rfl, rfl⟩
  · have hrs : (mt.toList == [72, 69, 65, 68]) = false := tl_lit h1
    have t3 : (st == 204) = false := beq_eq_false_iff_ne.2 h3
    have t4 : (st == 304) = false := beq_eq_false_iff_ne.2 h4
    clear h1
    go_enter Tryd.func30, Tryd.ntmps30
    go_wp2
    go_ret
    exact ⟨by rfl, rfl⟩

section
variable (m t : ByteArray) (st : Int) (r : ByteArray) (mi : Int) (A : Option Addr) (n c : Nat) (fs : List Fd) (w : World) (hm : m.size ≤ 4096) (ht : t.size ≤ 4096) (hr : r.size ≤ 4096) (hL : Fs w ⟨A, n, c⟩ fs) (hn : n ≤ 4096) (hf : Few fs)
include hm ht hr hL hn hf

set_option maxRecDepth 100000 in
set_option maxHeartbeats 4000000 in
theorem request_any : Calls Tryd.prog 12 #[.agg #[.string m, .string t, .int .i64 st, .string r, .int .i64 mi, .slice A n c]] w (FrEnds (reqF (rightB (hdOf m t st r mi fs) false) (frH fs mi)) w) := by
  have hb0 := ba2 w (.cells #[.string m, .string t, .int .i64 st, .string r, .int .i64 mi, .slice A n c] 25) (.cells #[.int .i64 0, .int .i64 0] 38)
  have HR := Lib.hid (right_any m t st r mi A n c fs false _ hm ht hr (hL.up hb0) hn hf)
  have HFm := Lib.hid (fun W (hW : Below w.heap.size w W) => fromFields_any m t st r mi A n c fs W (hL.up hW) hn hf)
  have HO := Lib.hid (frH_ok fs mi)
  obtain ⟨Q, hQ⟩ : ∃ Q, reqF (rightB (hdOf m t st r mi fs) false) (frH fs mi) = Q := ⟨_, rfl⟩
  rw [hQ]
  have HD := Lib.hid hQ.symm
  clear hQ
  generalize rightB (hdOf m t st r mi fs) false = bb at *
  generalize frH fs mi = q at *
  clear hm ht hr hL hf
  go_enter Tryd.func12, Tryd.ntmps12
  go_wp2_with fail
  have bh := (Box.new w 25 #[.string m, .string t, .int .i64 st, .string r, .int .i64 mi, .slice A n c]).alloc (.cells #[.int .i64 0, .int .i64 0] 38)
  have bf := Box.mk' (w.alloc (.cells #[.string m, .string t, .int .i64 st, .string r, .int .i64 mi, .slice A n c] 25)) 38 #[.int .i64 0, .int .i64 0] (w.heap.size + 1) (by simp)
  obtain ⟨g, hg⟩ : ∃ g, w.heap.size = g := ⟨_, rfl⟩
  rw [hg] at bh bf ⊢
  have HG : Hid (w.heap.size ≤ g + 1) := Lib.hid (by omega)
  clear hg
  generalize (w.alloc (.cells #[.string m, .string t, .int .i64 st, .string r, .int .i64 mi, .slice A n c] 25)).alloc (.cells #[.int .i64 0, .int .i64 0] 38) = W0 at *
  refine HR.out.mono ?_
  rintro e w1 ⟨rfl, hb1⟩
  have bh1 := bh.up hb1
  have bf1 := bf.up hb1
  have hbw1 := Lib.hid (bon hb0 hb1)
  clear bh bf hb0 hb1 HR
  obtain ⟨c0, c1, c2, c3, c4, c5⟩ := bh1.six
  cases bb with
  | false =>
    have HV : Hid (Q = (0, 0, 1)) := Lib.hid (by rw [HD.out]; rfl)
    have HQ := Lib.hid (Fr2 (bf1.set2 (.int .i64 (0)) (.int .i64 (0))))
    have HW := Lib.hid (below_set2 hbw1.out (g := g + 1) HG.out (.int .i64 (0)) (.int .i64 (0)))
    obtain ⟨k0, k1, f0, f1⟩ := Fr2 bf1
    go_wp2
    obtain ⟨q0, q1, _, _⟩ := HQ.out
    refine bodyPost_ret (v := .tuple #[.agg #[.int .i64 (0), .int .i64 (0)], .int .i64 (1)]) (by simp [results, Tryd.results12, go_sem, q0, q1]) rfl ?_
    exact ⟨ret_fr HV.out, HW.out⟩
  | true =>
    go_wp2_with fail
    refine (HFm.out _ hbw1.out).mono ?_
    rintro e w2 ⟨rfl, hb2⟩
    have bh2 := bh1.up hb2
    have bf2 := bf1.up hb2
    have hbw2 := Lib.hid (bon hbw1.out hb2)
    clear bh1 bf1 hbw1 hb2 HFm c0 c1 c2 c3 c4 c5
    obtain ⟨a, b, d⟩ := q
    simp only
    go_upto_region 4 with fail
    have bx := Box.new w2 38 #[.int .i64 a, .int .i64 b]
    have bh := bh2.alloc (.cells #[.int .i64 a, .int .i64 b] 38)
    have bf := bf2.alloc (.cells #[.int .i64 a, .int .i64 b] 38)
    have hbw := Lib.hid (bon hbw2.out (ba1 w2 (.cells #[.int .i64 a, .int .i64 b] 38)))
    obtain ⟨gx, hgx⟩ : ∃ gx, w2.heap.size = gx := ⟨_, rfl⟩
    have hlt := bf2.lt
    rw [hgx] at bx hlt ⊢
    have HGX : Hid (w.heap.size ≤ gx) := Lib.hid (by have := HG.out; omega)
    have hne : ¬ g + 1 = gx := by omega
    have hne2 : ¬ gx = g + 1 := by omega
    have hne3 : ¬ g = gx := by omega
    have hne4 : ¬ gx = g := by omega
    clear hgx hlt bh2 bf2 hbw2
    generalize w2.alloc (.cells #[.int .i64 a, .int .i64 b] 38) = W3 at *
    obtain ⟨c0, c1, c2, c3, c4, c5⟩ := bh.six
    obtain ⟨x0, x1, y0, y1⟩ := Fr2 bx
    have HO2 := HO.out
    unfold OkF at HO2
    simp only at HO2
    by_cases hd : d = 0
    · subst hd
      clear HO
      by_cases ha : a = 0
      · obtain rfl : b = 0 := by omega
        subst ha
        have HV : Hid (Q = (1, 0, 0)) := Lib.hid (by rw [HD.out]; rfl)
        clear HO2
        have HOr := Lib.hid (fun W => orElse_any (0) (0) 1 W)
        rw [show orN 0 0 1 = (1, 0) from rfl] at HOr
        go_wp2_with fail
        refine (HOr.out _).mono ?_
        rintro e w4 ⟨rfl, hb4⟩
        simp only
        have bf4 := bf.up hb4
        have hbw4 := Lib.hid (bon hbw.out hb4)
        clear bf hbw hb4 HOr c0 c1 c2 c3 c4 c5 x0 x1 y0 y1
        have HQ := Lib.hid (Fr2 (bf4.set2 (.int .i64 (1)) (.int .i64 (0))))
        have HW := Lib.hid (below_set2 hbw4.out (g := g + 1) HG.out (.int .i64 (1)) (.int .i64 (0)))
        obtain ⟨k0, k1, f0, f1⟩ := Fr2 bf4
        go_wp2
        obtain ⟨q0, q1, _, _⟩ := HQ.out
        refine bodyPost_ret (v := .tuple #[.agg #[.int .i64 (1), .int .i64 (0)], .int .i64 (0)]) (by simp [results, Tryd.results12, go_sem, q0, q1]) rfl ?_
        exact ⟨ret_fr HV.out, HW.out⟩
      · have HV : Hid (Q = (a, b, 0)) := Lib.hid (by rw [HD.out]; simp [reqF, ha])
        have hab : (a == 0) = false := beq_eq_false_iff_ne.2 ha
        clear HO2
        have HOr := Lib.hid (fun W => orElse_any (a) (b) 1 W)
        rw [show orN a b 1 = (a, b) from if_neg (fun h => ha h.1)] at HOr
        go_wp2_with fail
        refine (HOr.out _).mono ?_
        rintro e w4 ⟨rfl, hb4⟩
        simp only
        have bf4 := bf.up hb4
        have hbw4 := Lib.hid (bon hbw.out hb4)
        clear bf hbw hb4 HOr c0 c1 c2 c3 c4 c5 x0 x1 y0 y1
        have HQ := Lib.hid (Fr2 (bf4.set2 (.int .i64 (a)) (.int .i64 (b))))
        have HW := Lib.hid (below_set2 hbw4.out (g := g + 1) HG.out (.int .i64 (a)) (.int .i64 (b)))
        obtain ⟨k0, k1, f0, f1⟩ := Fr2 bf4
        go_wp2
        obtain ⟨q0, q1, _, _⟩ := HQ.out
        refine bodyPost_ret (v := .tuple #[.agg #[.int .i64 (a), .int .i64 (b)], .int .i64 (0)]) (by simp [results, Tryd.results12, go_sem, q0, q1]) rfl ?_
        exact ⟨ret_fr HV.out, HW.out⟩
    · obtain ⟨rfl, rfl⟩ : a = 0 ∧ b = 0 := by omega
      have HV : Hid (Q = (0, 0, d)) := Lib.hid (by rw [HD.out]; simp [reqF, hd])
      have hdb : (d == 0) = false := beq_eq_false_iff_ne.2 hd
      have hdc : (d != 0) = true := bne_iff_ne.2 hd
      clear HO HO2 hd
      have HQ := Lib.hid (Fr2 (bf.set2 (.int .i64 (0)) (.int .i64 (0))))
      have HW := Lib.hid (below_set2 hbw.out (g := g + 1) HG.out (.int .i64 (0)) (.int .i64 (0)))
      obtain ⟨k0, k1, f0, f1⟩ := Fr2 bf
      go_wp2
      obtain ⟨q0, q1, _, _⟩ := HQ.out
      refine bodyPost_ret (v := .tuple #[.agg #[.int .i64 (0), .int .i64 (0)], .int .i64 (d)]) (by simp [results, Tryd.results12, go_sem, q0, q1]) rfl ?_
      exact ⟨ret_fr HV.out, HW.out⟩

set_option maxRecDepth 100000 in
set_option maxHeartbeats 4000000 in
theorem answer_any (mt : ByteArray) : Calls Tryd.prog 18 #[.agg #[.string m, .string t, .int .i64 st, .string r, .int .i64 mi, .slice A n c], .string mt] w (FrEnds (ansF (rightB (hdOf m t st r mi fs) true) (bareB st (dl mt)) (frH fs mi)) w) := by
  have hb0 := ba2 w (.cells #[.string m, .string t, .int .i64 st, .string r, .int .i64 mi, .slice A n c] 25) (.cells #[.int .i64 0, .int .i64 0] 38)
  have HR := Lib.hid (right_any m t st r mi A n c fs true _ hm ht hr (hL.up hb0) hn hf)
  have HFm := Lib.hid (fun W (hW : Below w.heap.size w W) => fromFields_any m t st r mi A n c fs W (hL.up hW) hn hf)
  have HO := Lib.hid (frH_ok fs mi)
  obtain ⟨Q, hQ⟩ : ∃ Q, ansF (rightB (hdOf m t st r mi fs) true) (bareB st (dl mt)) (frH fs mi) = Q := ⟨_, rfl⟩
  rw [hQ]
  have HD := Lib.hid hQ.symm
  clear hQ
  generalize rightB (hdOf m t st r mi fs) true = bb at *
  generalize frH fs mi = q at *
  clear hm ht hr hL hf
  go_enter Tryd.func18, Tryd.ntmps18
  go_wp2_with fail
  have bh := (Box.new w 25 #[.string m, .string t, .int .i64 st, .string r, .int .i64 mi, .slice A n c]).alloc (.cells #[.int .i64 0, .int .i64 0] 38)
  have bf := Box.mk' (w.alloc (.cells #[.string m, .string t, .int .i64 st, .string r, .int .i64 mi, .slice A n c] 25)) 38 #[.int .i64 0, .int .i64 0] (w.heap.size + 1) (by simp)
  obtain ⟨g, hg⟩ : ∃ g, w.heap.size = g := ⟨_, rfl⟩
  rw [hg] at bh bf ⊢
  have HG : Hid (w.heap.size ≤ g + 1) := Lib.hid (by omega)
  clear hg
  generalize (w.alloc (.cells #[.string m, .string t, .int .i64 st, .string r, .int .i64 mi, .slice A n c] 25)).alloc (.cells #[.int .i64 0, .int .i64 0] 38) = W0 at *
  refine HR.out.mono ?_
  rintro e w1 ⟨rfl, hb1⟩
  have bh1 := bh.up hb1
  have bf1 := bf.up hb1
  have hbw1 := Lib.hid (bon hb0 hb1)
  clear bh bf hb0 hb1 HR
  obtain ⟨c0, c1, c2, c3, c4, c5⟩ := bh1.six
  cases bb with
  | false =>
    have HV : Hid (Q = (0, 0, 1)) := Lib.hid (by rw [HD.out]; rfl)
    have HQ := Lib.hid (Fr2 (bf1.set2 (.int .i64 (0)) (.int .i64 (0))))
    have HW := Lib.hid (below_set2 hbw1.out (g := g + 1) HG.out (.int .i64 (0)) (.int .i64 (0)))
    obtain ⟨k0, k1, f0, f1⟩ := Fr2 bf1
    go_wp2
    obtain ⟨q0, q1, _, _⟩ := HQ.out
    refine bodyPost_ret (v := .tuple #[.agg #[.int .i64 (0), .int .i64 (0)], .int .i64 (1)]) (by simp [results, Tryd.results18, go_sem, q0, q1]) rfl ?_
    exact ⟨ret_fr HV.out, HW.out⟩
  | true =>
    go_wp2_with fail
    refine (HFm.out _ hbw1.out).mono ?_
    rintro e w2 ⟨rfl, hb2⟩
    have bh2 := bh1.up hb2
    have bf2 := bf1.up hb2
    have hbw2 := Lib.hid (bon hbw1.out hb2)
    clear bh1 bf1 hbw1 hb2 HFm c0 c1 c2 c3 c4 c5
    obtain ⟨a, b, d⟩ := q
    simp only
    go_upto_region 4 with fail
    have bx := Box.new w2 38 #[.int .i64 a, .int .i64 b]
    have bh := bh2.alloc (.cells #[.int .i64 a, .int .i64 b] 38)
    have bf := bf2.alloc (.cells #[.int .i64 a, .int .i64 b] 38)
    have hbw := Lib.hid (bon hbw2.out (ba1 w2 (.cells #[.int .i64 a, .int .i64 b] 38)))
    obtain ⟨gx, hgx⟩ : ∃ gx, w2.heap.size = gx := ⟨_, rfl⟩
    have hlt := bf2.lt
    rw [hgx] at bx hlt ⊢
    have HGX : Hid (w.heap.size ≤ gx) := Lib.hid (by have := HG.out; omega)
    have hne : ¬ g + 1 = gx := by omega
    have hne2 : ¬ gx = g + 1 := by omega
    have hne3 : ¬ g = gx := by omega
    have hne4 : ¬ gx = g := by omega
    clear hgx hlt bh2 bf2 hbw2
    generalize w2.alloc (.cells #[.int .i64 a, .int .i64 b] 38) = W3 at *
    obtain ⟨c0, c1, c2, c3, c4, c5⟩ := bh.six
    obtain ⟨x0, x1, y0, y1⟩ := Fr2 bx
    have HO2 := HO.out
    unfold OkF at HO2
    simp only at HO2
    by_cases hd : d = 0
    · subst hd
      clear HO
      have HB := Lib.hid (fun W => bare_any st mt W)
      have HX := Lib.hid HD.out
      obtain ⟨bq, hbq⟩ : ∃ x, bareB st (dl mt) = x := ⟨_, rfl⟩
      rw [hbq] at HB HX
      clear hbq HD
      go_wp2_with fail
      refine (HB.out _).mono ?_
      rintro e w3 ⟨rfl, rfl⟩
      cases bq with
      | true =>
        have HV : Hid (Q = (1, 0, 0)) := Lib.hid (by rw [HX.out]; rfl)
        clear HO2
        have HQ := Lib.hid (Fr2 (bf.set2 (.int .i64 (1)) (.int .i64 (0))))
        have HW := Lib.hid (below_set2 hbw.out (g := g + 1) HG.out (.int .i64 (1)) (.int .i64 (0)))
        obtain ⟨k0, k1, f0, f1⟩ := Fr2 bf
        go_wp2
        obtain ⟨q0, q1, _, _⟩ := HQ.out
        refine bodyPost_ret (v := .tuple #[.agg #[.int .i64 (1), .int .i64 (0)], .int .i64 (0)]) (by simp [results, Tryd.results18, go_sem, q0, q1]) rfl ?_
        exact ⟨ret_fr HV.out, HW.out⟩
      | false =>
        by_cases ha : a = 0
        · obtain rfl : b = 0 := by omega
          subst ha
          have HV : Hid (Q = (4, 0, 0)) := Lib.hid (by rw [HX.out]; rfl)
          clear HO2
          have HOr := Lib.hid (fun W => orElse_any (0) (0) 4 W)
          rw [show orN 0 0 4 = (4, 0) from rfl] at HOr
          go_wp2_with fail
          refine (HOr.out _).mono ?_
          rintro e w4 ⟨rfl, hb4⟩
          simp only
          have bf4 := bf.up hb4
          have hbw4 := Lib.hid (bon hbw.out hb4)
          clear bf hbw hb4 HOr c0 c1 c2 c3 c4 c5 x0 x1 y0 y1
          have HQ := Lib.hid (Fr2 (bf4.set2 (.int .i64 (4)) (.int .i64 (0))))
          have HW := Lib.hid (below_set2 hbw4.out (g := g + 1) HG.out (.int .i64 (4)) (.int .i64 (0)))
          obtain ⟨k0, k1, f0, f1⟩ := Fr2 bf4
          go_wp2
          obtain ⟨q0, q1, _, _⟩ := HQ.out
          refine bodyPost_ret (v := .tuple #[.agg #[.int .i64 (4), .int .i64 (0)], .int .i64 (0)]) (by simp [results, Tryd.results18, go_sem, q0, q1]) rfl ?_
          exact ⟨ret_fr HV.out, HW.out⟩
        · have HV : Hid (Q = (a, b, 0)) := Lib.hid (by rw [HX.out]; simp [ansF, ha])
          have hab : (a == 0) = false := beq_eq_false_iff_ne.2 ha
          clear HO2
          have HOr := Lib.hid (fun W => orElse_any (a) (b) 4 W)
          rw [show orN a b 4 = (a, b) from if_neg (fun h => ha h.1)] at HOr
          go_wp2_with fail
          refine (HOr.out _).mono ?_
          rintro e w4 ⟨rfl, hb4⟩
          simp only
          have bf4 := bf.up hb4
          have hbw4 := Lib.hid (bon hbw.out hb4)
          clear bf hbw hb4 HOr c0 c1 c2 c3 c4 c5 x0 x1 y0 y1
          have HQ := Lib.hid (Fr2 (bf4.set2 (.int .i64 (a)) (.int .i64 (b))))
          have HW := Lib.hid (below_set2 hbw4.out (g := g + 1) HG.out (.int .i64 (a)) (.int .i64 (b)))
          obtain ⟨k0, k1, f0, f1⟩ := Fr2 bf4
          go_wp2
          obtain ⟨q0, q1, _, _⟩ := HQ.out
          refine bodyPost_ret (v := .tuple #[.agg #[.int .i64 (a), .int .i64 (b)], .int .i64 (0)]) (by simp [results, Tryd.results18, go_sem, q0, q1]) rfl ?_
          exact ⟨ret_fr HV.out, HW.out⟩
    · obtain ⟨rfl, rfl⟩ : a = 0 ∧ b = 0 := by omega
      have HV : Hid (Q = (0, 0, d)) := Lib.hid (by rw [HD.out]; simp [ansF, hd])
      have hdb : (d == 0) = false := beq_eq_false_iff_ne.2 hd
      have hdc : (d != 0) = true := bne_iff_ne.2 hd
      clear HO HO2 hd
      have HQ := Lib.hid (Fr2 (bf.set2 (.int .i64 (0)) (.int .i64 (0))))
      have HW := Lib.hid (below_set2 hbw.out (g := g + 1) HG.out (.int .i64 (0)) (.int .i64 (0)))
      obtain ⟨k0, k1, f0, f1⟩ := Fr2 bf
      go_wp2
      obtain ⟨q0, q1, _, _⟩ := HQ.out
      refine bodyPost_ret (v := .tuple #[.agg #[.int .i64 (0), .int .i64 (0)], .int .i64 (d)]) (by simp [results, Tryd.results18, go_sem, q0, q1]) rfl ?_
      exact ⟨ret_fr HV.out, HW.out⟩

end
end Go.Proofs.YtginijeajenghaaDoor
