/-
  The walks of frame's own chunked, sized and fromFields.
-/
import Derived.Test.YtginijeajenghaaDoorFrL
import Derived.Test.YtginijeajenghaaDoorOwnI
namespace Go.Proofs.YtginijeajenghaaDoor
open Go.RowKit

set_option maxRecDepth 100000 in
set_option maxHeartbeats 2000000 in
theorem sized_any (T : Sli) (t : List ByteArray) (w : World) (hT : Ss w T t) (hf : ∀ x ∈ t, x.size ≤ 4096) (h0 : 1 ≤ T.n) : Calls Tryd.prog 38 #[.slice T.A T.n T.c] w (FrEnds (sizN t) w) := by
  obtain ⟨A, n, c⟩ := T
  have hlen := hT.len
  simp only at hlen ⊢
  have hb0 := ba1 w (.cells #[.int .i64 0, .int .i64 0] 38)
  by_cases h1 : n = 1
  · subst h1
    obtain ⟨b, o, x, hA, hb, hx, c1⟩ := (hT.up hb0).cell (k := 0) Nat.zero_lt_one
    rw [Nat.add_zero] at c1
    simp only at hA
    subst hA
    have hxs := hf x (List.mem_of_getElem? hx)
    have HE : Hid (sizN t = lenN (dl x)) := Lib.hid (by rw [sizN, if_pos hlen, hd1_of hx])
    have HP := Lib.hid (fun W => Nm.parse_any x 10 W (by unfold maxLen; omega))
    clear hT hf hx hlen h0
    unfold lenN at HE
    obtain ⟨p, hp⟩ : ∃ p, parseN (dl x) 10 = p := ⟨_, rfl⟩
    rw [hp] at HE
    have HP2 : Hid (∀ W, Calls Tryd.prog 52 #[.string x, .int .i64 10] W fun e w' => e = .returned (.tuple #[.int .i64 p.1, .int .i64 p.2]) ∧ w' = W) := Lib.hid (fun W => by rw [← hp]; exact HP.out W)
    clear hp HP
    obtain ⟨v, er⟩ := p
    simp only at HE HP2
    go_enter Tryd.func38, Tryd.ntmps38
    go_wp2_with fail
    have bf := Box.new w 38 #[.int .i64 0, .int .i64 0]
    obtain ⟨g, hg⟩ : ∃ g, w.heap.size = g := ⟨_, rfl⟩
    rw [hg] at bf ⊢
    have HG : Hid (w.heap.size ≤ g) := Lib.hid (by omega)
    have hbw := Lib.hid hb0
    clear hg hb0
    generalize w.alloc (.cells #[.int .i64 0, .int .i64 0] 38) = W0 at *
    refine (HP2.out _).mono ?_
    rintro e w1 ⟨rfl, rfl⟩
    by_cases e1 : er = 1
    · have HV : Hid (sizN t = (0, 0, 22)) := Lib.hid (by rw [HE.out, if_pos e1])
      subst e1
      have HQ := Lib.hid (Fr2 (bf.set2 (.int .i64 (0)) (.int .i64 (0))))
      have HW := Lib.hid (below_set2 hbw.out (g := g) HG.out (.int .i64 (0)) (.int .i64 (0)))
      obtain ⟨k0, k1, f0, f1⟩ := Fr2 bf
      go_wp2
      obtain ⟨q0, q1, _, _⟩ := HQ.out
      refine bodyPost_ret (v := .tuple #[.agg #[.int .i64 (0), .int .i64 (0)], .int .i64 (22)]) (by simp [results, Tryd.results38, go_sem, q0, q1]) rfl ?_
      exact ⟨ret_fr HV.out, HW.out⟩
    · have t1 : (er == 1) = false := beq_eq_false_iff_ne.2 e1
      by_cases e0 : er = 0
      · subst e0
        by_cases hv : 4000 < v
        · have HV : Hid (sizN t = (0, 0, 2)) := Lib.hid (by rw [HE.out, if_neg e1, if_pos (.inr hv)])
          clear e1 t1
          have HQ := Lib.hid (Fr2 (bf.set2 (.int .i64 (0)) (.int .i64 (0))))
          have HW := Lib.hid (below_set2 hbw.out (g := g) HG.out (.int .i64 (0)) (.int .i64 (0)))
          obtain ⟨k0, k1, f0, f1⟩ := Fr2 bf
          go_wp2
          obtain ⟨q0, q1, _, _⟩ := HQ.out
          refine bodyPost_ret (v := .tuple #[.agg #[.int .i64 (0), .int .i64 (0)], .int .i64 (2)]) (by simp [results, Tryd.results38, go_sem, q0, q1]) rfl ?_
          exact ⟨ret_fr HV.out, HW.out⟩
        · have HV : Hid (sizN t = (2, v, 0)) := Lib.hid (by rw [HE.out, if_neg e1, if_neg (by simp; omega)])
          clear e1 t1
          have HQ := Lib.hid (Fr2 (bf.set2 (.int .i64 (2)) (.int .i64 (v))))
          have HW := Lib.hid (below_set2 hbw.out (g := g) HG.out (.int .i64 (2)) (.int .i64 (v)))
          obtain ⟨k0, k1, f0, f1⟩ := Fr2 bf
          go_wp2
          obtain ⟨q0, q1, _, _⟩ := HQ.out
          refine bodyPost_ret (v := .tuple #[.agg #[.int .i64 (2), .int .i64 (v)], .int .i64 (0)]) (by simp [results, Tryd.results38, go_sem, q0, q1]) rfl ?_
          exact ⟨ret_fr HV.out, HW.out⟩
      · have HV : Hid (sizN t = (0, 0, 2)) := Lib.hid (by rw [HE.out, if_neg e1, if_pos (.inl e0)])
        have t0 : (er != 0) = true := bne_iff_ne.2 e0
        have HQ := Lib.hid (Fr2 (bf.set2 (.int .i64 (0)) (.int .i64 (0))))
        have HW := Lib.hid (below_set2 hbw.out (g := g) HG.out (.int .i64 (0)) (.int .i64 (0)))
        obtain ⟨k0, k1, f0, f1⟩ := Fr2 bf
        go_wp2
        obtain ⟨q0, q1, _, _⟩ := HQ.out
        refine bodyPost_ret (v := .tuple #[.agg #[.int .i64 (0), .int .i64 (0)], .int .i64 (2)]) (by simp [results, Tryd.results38, go_sem, q0, q1]) rfl ?_
        exact ⟨ret_fr HV.out, HW.out⟩
  · have HV : Hid (sizN t = (0, 0, 22)) := Lib.hid (by rw [sizN, if_neg (by omega)])
    have t1 : (1 : Int) < (n : Int) := by simp only at h0; omega
    clear hT hf hlen h1
    go_enter Tryd.func38, Tryd.ntmps38
    go_wp2
    obtain ⟨q0, q1, _, _⟩ := Fr2 (Box.new w 38 #[.int .i64 0, .int .i64 0])
    refine bodyPost_ret (v := .tuple #[.agg #[.int .i64 0, .int .i64 0], .int .i64 22]) (by simp [results, Tryd.results38, go_sem, q0, q1]) rfl ?_
    exact ⟨ret_fr HV.out, hb0⟩

set_option maxRecDepth 100000 in
set_option maxHeartbeats 2000000 in
theorem chunked_any (T : Sli) (t : List ByteArray) (w : World) (hT : Ss w T t) (hf : ∀ x ∈ t, x.size ≤ 4096) (h0 : 1 ≤ T.n) : Calls Tryd.prog 37 #[.slice T.A T.n T.c] w (FrEnds (chunkN t) w) := by
  obtain ⟨A, n, c⟩ := T
  have hlen := hT.len
  simp only at hlen h0 ⊢
  have hb0 := ba1 w (.cells #[.int .i64 0, .int .i64 0] 38)
  by_cases h1 : n = 1
  · subst h1
    obtain ⟨b, o, x, hA, hb, hx, c1⟩ := (hT.up hb0).cell (k := 0) Nat.zero_lt_one
    rw [Nat.add_zero] at c1
    simp only at hA
    subst hA
    have HLo := Lib.hid (fun W => lower_any x (hf x (List.mem_of_getElem? hx)) W)
    have HX : Hid (chunkN t = if lowerL (dl x) = chkB then (3, 0, 0) else (0, 0, 22)) := Lib.hid (by
      rw [chunkN, hd1_of hx, hlen]
      simp)
    clear hT hf hx hlen h0
    go_enter Tryd.func37, Tryd.ntmps37
    go_wp2_with fail
    have bf := Box.new w 38 #[.int .i64 0, .int .i64 0]
    obtain ⟨g, hg⟩ : ∃ g, w.heap.size = g := ⟨_, rfl⟩
    rw [hg] at bf ⊢
    have HG : Hid (w.heap.size ≤ g) := Lib.hid (by omega)
    clear hg
    generalize w.alloc (.cells #[.int .i64 0, .int .i64 0] 38) = W0 at *
    refine (HLo.out _).mono ?_
    rintro e w3 ⟨y, rfl, hy, hb3⟩
    have bf3 := bf.up hb3
    have hbw3 := Lib.hid (bon hb0 hb3)
    clear bf hb0 hb3 c1
    by_cases hq : y = ⟨#[99, 104, 117, 110, 107, 101, 100]⟩
    · have HV : Hid (chunkN t = (3, 0, 0)) := Lib.hid (by rw [HX.out, if_pos (by rw [← hy, hq]; rfl)])
      subst hq
      clear hy HX
      have HQ := Lib.hid (Fr2 (bf3.set2 (.int .i64 (3)) (.int .i64 (0))))
      have HW := Lib.hid (below_set2 hbw3.out (g := g) HG.out (.int .i64 (3)) (.int .i64 (0)))
      obtain ⟨k0, k1, f0, f1⟩ := Fr2 bf3
      go_wp2
      obtain ⟨q0, q1, _, _⟩ := HQ.out
      refine bodyPost_ret (v := .tuple #[.agg #[.int .i64 (3), .int .i64 (0)], .int .i64 (0)]) (by simp [results, Tryd.results37, go_sem, q0, q1]) rfl ?_
      exact ⟨ret_fr HV.out, HW.out⟩
    · have HV : Hid (chunkN t = (0, 0, 22)) := Lib.hid (by rw [HX.out, if_neg (fun h : lowerL (dl x) = chkB => hq (dl_inj (hy.trans h)))])
      have hrs : (y.toList == [99, 104, 117, 110, 107, 101, 100]) = false := tl_lit (fun h => hq (dl_inj h))
      clear hy HX
      have HQ := Lib.hid (Fr2 (bf3.set2 (.int .i64 (0)) (.int .i64 (0))))
      have HW := Lib.hid (below_set2 hbw3.out (g := g) HG.out (.int .i64 (0)) (.int .i64 (0)))
      obtain ⟨k0, k1, f0, f1⟩ := Fr2 bf3
      go_wp2
      obtain ⟨q0, q1, _, _⟩ := HQ.out
      refine bodyPost_ret (v := .tuple #[.agg #[.int .i64 (0), .int .i64 (0)], .int .i64 (22)]) (by simp [results, Tryd.results37, go_sem, q0, q1]) rfl ?_
      exact ⟨ret_fr HV.out, HW.out⟩
  · have HV : Hid (chunkN t = (0, 0, 22)) := Lib.hid (by rw [chunkN, if_neg (by omega)])
    have t1 : (1 : Int) < (n : Int) := by omega
    clear hT hf hlen h1 h0
    go_enter Tryd.func37, Tryd.ntmps37
    go_wp2
    obtain ⟨q0, q1, _, _⟩ := Fr2 (Box.new w 38 #[.int .i64 0, .int .i64 0])
    refine bodyPost_ret (v := .tuple #[.agg #[.int .i64 0, .int .i64 0], .int .i64 22]) (by simp [results, Tryd.results37, go_sem, q0, q1]) rfl ?_
    exact ⟨ret_fr HV.out, hb0⟩

section
variable (m t : ByteArray) (st : Int) (r : ByteArray) (mi : Int) (A : Option Addr) (n c : Nat) (fs : List Fd) (w : World) (hL : Fs w ⟨A, n, c⟩ fs) (hn : n ≤ 4096) (hf : Few fs)
include hL hn hf

set_option maxRecDepth 100000 in
set_option maxHeartbeats 4000000 in
theorem fromFields_any : Calls Tryd.prog 22 #[.agg #[.string m, .string t, .int .i64 st, .string r, .int .i64 mi, .slice A n c]] w (FrEnds (frH fs mi) w) := by
  have hb0 := ba2 w (.cells #[.string m, .string t, .int .i64 st, .string r, .int .i64 mi, .slice A n c] 25) (.cells #[.int .i64 0, .int .i64 0] 38)
  have HG1 := Lib.hid (get_any ⟨A, n, c⟩ fs ⟨#[84, 114, 97, 110, 115, 102, 101, 114, 45, 69, 110, 99, 111, 100, 105, 110, 103]⟩ _ (hL.up hb0) hn (fun f hfm => (hf f hfm).1) (by decide))
  have HG2 := Lib.hid (fun W (hW : Below w.heap.size w W) => get_any ⟨A, n, c⟩ fs ⟨#[67, 111, 110, 116, 101, 110, 116, 45, 76, 101, 110, 103, 116, 104]⟩ W (hL.up hW) hn (fun f hfm => (hf f hfm).1) (by decide))
  rw [getL_name (b := teN) (by decide +kernel)] at HG1
  have HG2' := Lib.hid (fun W hW => HG2.out W hW)
  clear HG2
  have HG2 : Hid (∀ W, Below w.heap.size w W → Calls Tryd.prog 24 #[Sli.v ⟨A, n, c⟩, .string ⟨#[67, 111, 110, 116, 101, 110, 116, 45, 76, 101, 110, 103, 116, 104]⟩] W (SsEnds (getL fs clN) W)) := Lib.hid (fun W hW => by have := HG2'.out W hW; rw [getL_name (b := clN) (by decide +kernel)] at this; exact this)
  clear HG2'
  have HF1 := Lib.hid (getL_few (a := teN) hf)
  have HF2 := Lib.hid (getL_few (a := clN) hf)
  have HD : Hid (frH fs mi = framedN (getL fs teN) (getL fs clN) mi) := Lib.hid rfl
  generalize getL fs teN = tt at *
  generalize getL fs clN = cc at *
  clear hL hf
  simp only [Sli.v] at HG1 HG2
  go_enter Tryd.func22, Tryd.ntmps22
  go_wp2_with fail
  have bh := (Box.new w 25 #[.string m, .string t, .int .i64 st, .string r, .int .i64 mi, .slice A n c]).alloc (.cells #[.int .i64 0, .int .i64 0] 38)
  have bf := Box.mk' (w.alloc (.cells #[.string m, .string t, .int .i64 st, .string r, .int .i64 mi, .slice A n c] 25)) 38 #[.int .i64 0, .int .i64 0] (w.heap.size + 1) (by simp)
  obtain ⟨g, hg⟩ : ∃ g, w.heap.size = g := ⟨_, rfl⟩
  rw [hg] at bh bf ⊢
  have HG : Hid (w.heap.size ≤ g + 1) := Lib.hid (by omega)
  clear hg
  generalize (w.alloc (.cells #[.string m, .string t, .int .i64 st, .string r, .int .i64 mi, .slice A n c] 25)).alloc (.cells #[.int .i64 0, .int .i64 0] 38) = W0 at *
  refine HG1.out.mono ?_
  rintro e w1 ⟨T, rfl, hT, hb1⟩
  have bh1 := bh.up hb1
  have bf1 := bf.up hb1
  have HW1 := Lib.hid (bon hb0 hb1)
  clear bh bf hb0 hb1 HG1
  obtain ⟨_, _, _, _, c4, c5⟩ := bh1.six
  go_wp2_with fail
  refine (HG2.out _ HW1.out).mono ?_
  rintro e w2 ⟨C, rfl, hC, hb2⟩
  have bh := bh1.up hb2
  have bf := bf1.up hb2
  have hT2 := hT.up hb2
  have hbw := Lib.hid (bon HW1.out hb2)
  clear bh1 bf1 hb2 hT HG2 HW1 c4 c5
  obtain ⟨_, _, _, _, c4, c5⟩ := bh.six
  obtain ⟨AT, nT, cT⟩ := T
  obtain ⟨AC, nC, cC⟩ := C
  have lT := hT2.len
  have lC := hC.len
  have zT := Nat.le_trans hT2.le.1 hT2.le.2
  have zC := Nat.le_trans hC.le.1 hC.le.2
  unfold maxLen at zT zC
  have HT := Lib.hid hT2
  have HC := Lib.hid hC
  simp only at lT lC zT zC
  have HLT := Lib.hid lT
  have HLC := Lib.hid lC
  unfold framedN at HD
  rw [lT, lC] at HD
  clear hT2 hC bh lT lC
  by_cases h0 : nT = 0
  · subst h0
    by_cases h1 : nC = 0
    · subst h1
      have HV : Hid (frH fs mi = (0, 0, 0)) := Lib.hid (by rw [HD.out]; rfl)
      have HQ := Lib.hid (Fr2 (bf.set2 (.int .i64 (0)) (.int .i64 (0))))
      have HW := Lib.hid (below_set2 hbw.out (g := g + 1) HG.out (.int .i64 (0)) (.int .i64 (0)))
      obtain ⟨k0, k1, f0, f1⟩ := Fr2 bf
      go_wp2
      obtain ⟨q0, q1, _, _⟩ := HQ.out
      refine bodyPost_ret (v := .tuple #[.agg #[.int .i64 (0), .int .i64 (0)], .int .i64 (0)]) (by simp [results, Tryd.results22, go_sem, q0, q1]) rfl ?_
      exact ⟨ret_fr HV.out, HW.out⟩
    · have h1i : (0 : Int) < (nC : Int) := by omega
      have HL := Lib.hid (sized_any ⟨AC, nC, cC⟩ cc w2 HC.out HF2.out (by simp only; omega))
      obtain ⟨q, hq⟩ : ∃ q, sizN cc = q := ⟨_, rfl⟩
      have HV : Hid (frH fs mi = q) := Lib.hid (by rw [HD.out, if_neg (by omega), if_pos (by omega), hq])
      rw [hq] at HL
      clear hq HD h1
      simp only at HL
      go_wp2_with fail
      refine HL.out.mono ?_
      rintro e w3 ⟨rfl, hb3⟩
      have bf3 := bf.up hb3
      have hbw3 := Lib.hid (bon hbw.out hb3)
      clear bf hbw hb3 c4 c5
      obtain ⟨a, b, d⟩ := q
      simp only
      have HQ := Lib.hid (Fr2 (bf3.set2 (.int .i64 (a)) (.int .i64 (b))))
      have HW := Lib.hid (below_set2 hbw3.out (g := g + 1) HG.out (.int .i64 (a)) (.int .i64 (b)))
      obtain ⟨k0, k1, f0, f1⟩ := Fr2 bf3
      go_wp2
      obtain ⟨q0, q1, _, _⟩ := HQ.out
      refine bodyPost_ret (v := .tuple #[.agg #[.int .i64 (a), .int .i64 (b)], .int .i64 (d)]) (by simp [results, Tryd.results22, go_sem, q0, q1]) rfl ?_
      exact ⟨ret_fr HV.out, HW.out⟩
  · have h0i : (0 : Int) < (nT : Int) := by omega
    by_cases h2 : nC = 0
    · subst h2
      by_cases hmi : mi = 0
      · have HV : Hid (frH fs mi = (0, 0, 22)) := Lib.hid (by rw [HD.out, if_pos (by omega), if_pos (.inr hmi)])
        subst hmi
        have HQ := Lib.hid (Fr2 (bf.set2 (.int .i64 (0)) (.int .i64 (0))))
        have HW := Lib.hid (below_set2 hbw.out (g := g + 1) HG.out (.int .i64 (0)) (.int .i64 (0)))
        obtain ⟨k0, k1, f0, f1⟩ := Fr2 bf
        go_wp2
        obtain ⟨q0, q1, _, _⟩ := HQ.out
        refine bodyPost_ret (v := .tuple #[.agg #[.int .i64 (0), .int .i64 (0)], .int .i64 (22)]) (by simp [results, Tryd.results22, go_sem, q0, q1]) rfl ?_
        exact ⟨ret_fr HV.out, HW.out⟩
      · have hmb : (mi == 0) = false := beq_eq_false_iff_ne.2 hmi
        have HL := Lib.hid (chunked_any ⟨AT, nT, cT⟩ tt w2 HT.out HF1.out (by simp only; omega))
        obtain ⟨q, hq⟩ : ∃ q, chunkN tt = q := ⟨_, rfl⟩
        have HV : Hid (frH fs mi = q) := Lib.hid (by rw [HD.out, if_pos (by omega), if_neg (by omega), hq])
        rw [hq] at HL
        clear hq HD hmi
        simp only at HL
        go_wp2_with fail
        refine HL.out.mono ?_
        rintro e w3 ⟨rfl, hb3⟩
        have bf3 := bf.up hb3
        have hbw3 := Lib.hid (bon hbw.out hb3)
        clear bf hbw hb3 c4 c5
        obtain ⟨a, b, d⟩ := q
        simp only
        have HQ := Lib.hid (Fr2 (bf3.set2 (.int .i64 (a)) (.int .i64 (b))))
        have HW := Lib.hid (below_set2 hbw3.out (g := g + 1) HG.out (.int .i64 (a)) (.int .i64 (b)))
        obtain ⟨k0, k1, f0, f1⟩ := Fr2 bf3
        go_wp2
        obtain ⟨q0, q1, _, _⟩ := HQ.out
        refine bodyPost_ret (v := .tuple #[.agg #[.int .i64 (a), .int .i64 (b)], .int .i64 (d)]) (by simp [results, Tryd.results22, go_sem, q0, q1]) rfl ?_
        exact ⟨ret_fr HV.out, HW.out⟩
    · have h2i : (0 : Int) < (nC : Int) := by omega
      have HV : Hid (frH fs mi = (0, 0, 22)) := Lib.hid (by rw [HD.out, if_pos (by omega), if_pos (.inl (by omega))])
      have HQ := Lib.hid (Fr2 (bf.set2 (.int .i64 (0)) (.int .i64 (0))))
      have HW := Lib.hid (below_set2 hbw.out (g := g + 1) HG.out (.int .i64 (0)) (.int .i64 (0)))
      obtain ⟨k0, k1, f0, f1⟩ := Fr2 bf
      go_wp2
      obtain ⟨q0, q1, _, _⟩ := HQ.out
      refine bodyPost_ret (v := .tuple #[.agg #[.int .i64 (0), .int .i64 (0)], .int .i64 (22)]) (by simp [results, Tryd.results22, go_sem, q0, q1]) rfl ?_
      exact ⟨ret_fr HV.out, HW.out⟩

end
end Go.Proofs.YtginijeajenghaaDoor
