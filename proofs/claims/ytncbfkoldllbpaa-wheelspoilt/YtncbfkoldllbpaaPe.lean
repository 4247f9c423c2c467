/-
  The walk of the program's own Set.
-/
import Derived.Test.YtncbfkoldllbpaaPc
import Derived.Test.YtncbfkoldllbpaaPd
namespace Go.Proofs.Ytncbfkoldllbpaa
open Go.RowKit

/-- the call's own wheel in its box gb, and the result's box gr -/
structure Mine (B gb gr : Nat) (now : Int) (W : Wl) (T : Nat → Sli) (w wr : World) : Prop where
  ha : Box wr gb 25 (wcs now T)
  hr : Box wr gr 25 (wcs 0 (fun _ => ⟨none, 0, 0⟩))
  ho : Own8 wr B W T
  hb : Below B w wr
  le : B ≤ wr.heap.size
theorem Mine.up {B gb gr : Nat} {now : Int} {W : Wl} {T : Nat → Sli} {w wr w' : World} (h : Mine B gb gr now W T w wr) (hb : Below wr.heap.size wr w') : Mine B gb gr now W T w w' :=
  ⟨h.ha.up hb, h.hr.up hb, h.ho.up hb, h.hb.trans (hb.mono h.le), Nat.le_trans h.le hb.size⟩
/-- own's wheel is stored into the box of the argument -/
theorem mine_new {B gb gr : Nat} {now : Int} {W : Wl} {S T : Nat → Sli} {w w1 : World} (ha : Box w1 gb 25 (wcs now S)) (hr : Box w1 gr 25 (wcs 0 (fun _ => ⟨none, 0, 0⟩))) (ho : Own8 w1 B W T) (hb : Below B w w1) (hB : B ≤ gb) (hne : gr ≠ gb) :
    Mine B gb gr now W T w (((((((((w1.setCell ⟨gb, 0, none⟩ (.int .i64 now)).setCell ⟨gb, 1, none⟩ (.slice (T 0).A (T 0).n (T 0).c)).setCell ⟨gb, 2, none⟩ (.slice (T 1).A (T 1).n (T 1).c)).setCell ⟨gb, 3, none⟩ (.slice (T 2).A (T 2).n (T 2).c)).setCell ⟨gb, 4, none⟩ (.slice (T 3).A (T 3).n (T 3).c)).setCell ⟨gb, 5, none⟩ (.slice (T 4).A (T 4).n (T 4).c)).setCell ⟨gb, 6, none⟩ (.slice (T 5).A (T 5).n (T 5).c)).setCell ⟨gb, 7, none⟩ (.slice (T 6).A (T 6).n (T 6).c)).setCell ⟨gb, 8, none⟩ (.slice (T 7).A (T 7).n (T 7).c)) :=
  ⟨ha.set9 (.int .i64 now) (.slice (T 0).A (T 0).n (T 0).c) (.slice (T 1).A (T 1).n (T 1).c) (.slice (T 2).A (T 2).n (T 2).c) (.slice (T 3).A (T 3).n (T 3).c) (.slice (T 4).A (T 4).n (T 4).c) (.slice (T 5).A (T 5).n (T 5).c) (.slice (T 6).A (T 6).n (T 6).c) (.slice (T 7).A (T 7).n (T 7).c), hr.far9 hne (.int .i64 now) (.slice (T 0).A (T 0).n (T 0).c) (.slice (T 1).A (T 1).n (T 1).c) (.slice (T 2).A (T 2).n (T 2).c) (.slice (T 3).A (T 3).n (T 3).c) (.slice (T 4).A (T 4).n (T 4).c) (.slice (T 5).A (T 5).n (T 5).c) (.slice (T 6).A (T 6).n (T 6).c) (.slice (T 7).A (T 7).n (T 7).c), ho.far9 ha (by decide) (.int .i64 now) (.slice (T 0).A (T 0).n (T 0).c) (.slice (T 1).A (T 1).n (T 1).c) (.slice (T 2).A (T 2).n (T 2).c) (.slice (T 3).A (T 3).n (T 3).c) (.slice (T 4).A (T 4).n (T 4).c) (.slice (T 5).A (T 5).n (T 5).c) (.slice (T 6).A (T 6).n (T 6).c) (.slice (T 7).A (T 7).n (T 7).c), below_set9 hb hB (.int .i64 now) (.slice (T 0).A (T 0).n (T 0).c) (.slice (T 1).A (T 1).n (T 1).c) (.slice (T 2).A (T 2).n (T 2).c) (.slice (T 3).A (T 3).n (T 3).c) (.slice (T 4).A (T 4).n (T 4).c) (.slice (T 5).A (T 5).n (T 5).c) (.slice (T 6).A (T 6).n (T 6).c) (.slice (T 7).A (T 7).n (T 7).c), by rw [size_set9]; exact Nat.le_trans hB (Nat.le_of_lt ha.lt)⟩

set_option maxRecDepth 100000 in
set_option maxHeartbeats 4000000 in
theorem pset_any (W : Wl) (S : Nat → Sli) (id at_ : Int) (w : World) (h : At w W S) (hf : manyN W ≤ 1000) : Calls Try.prog 13 #[wv W.now S, .int .i64 id, .int .i64 at_] w (WhEnds (setN W id at_) w) := by
  have HOw := Lib.hid (fun W1 (hb : Below w.heap.size w W1) => pown_any W S W1 (h.up hb) (by omega))
  have HRt := Lib.hid (fun (T : Nat → Sli) W1 (hb : At W1 W T) => right_any W T W1 hb hf)
  have HSl := Lib.hid (fun (T : Nat → Sli) W1 (hb : At W1 W T) => slotOf_any W T id W1 hb)
  have HCt := Lib.hid (fun (T : Nat → Sli) W1 (hb : At W1 W T) => count_any W T W1 hb (by omega))
  have HAh := Lib.hid (fun (T : Nat → Sli) W1 => ahead_any W.now T at_ W1)
  clear h
  obtain ⟨now, hn⟩ : ∃ now, W.now = now := ⟨_, rfl⟩
  obtain ⟨m, hm⟩ : ∃ m, manyN W = m := ⟨_, rfl⟩
  have HN := Lib.hid hn
  have HM := Lib.hid hm
  rw [hm] at HCt hf
  rw [hn] at HOw HRt HSl HCt HAh ⊢
  clear hn hm
  unfold wv at HOw HRt HSl HCt HAh ⊢
  go_enter Try.func13, Try.ntmps13
  go_wp2_with fail
  refine (HOw.out _ (ba2 _ _ _)).mono ?_
  rintro e w1 ⟨T, rfl, hO, hb1⟩
  rw [HN.out]
  have hbox := ((Box.new w 25 (wcs now S)).alloc (.cells (wcs 0 (fun _ => ⟨none, 0, 0⟩)) 25)).up hb1
  have hres := (Box.mk' (w.alloc (.cells (wcs now S) 25)) 25 (wcs 0 (fun _ => ⟨none, 0, 0⟩)) (w.heap.size + 1) (by simp)).up hb1
  have hbel := bon (ba2 w _ _) hb1
  have hO := hO.mono (B' := w.heap.size) (by simp; omega)
  clear hb1
  unfold wv
  have hM := mine_new hbox hres hO hbel (Nat.le_refl _) (by omega)
  obtain ⟨c0, c1, c2, c3, c4, c5, c6, c7, c8⟩ := hbox.nine
  have f0 := hbox.f 0
  have f1 := hbox.f 1
  have f2 := hbox.f 2
  have f3 := hbox.f 3
  have f4 := hbox.f 4
  have f5 := hbox.f 5
  have f6 := hbox.f 6
  have f7 := hbox.f 7
  have f8 := hbox.f 8
  go_upto_region 2 with fail
  obtain ⟨w2, hw2⟩ : ∃ X, (((((((((w1.setCell ⟨w.heap.size, 0, none⟩ (.int .i64 now)).setCell ⟨w.heap.size, 1, none⟩ (.slice (T 0).A (T 0).n (T 0).c)).setCell ⟨w.heap.size, 2, none⟩ (.slice (T 1).A (T 1).n (T 1).c)).setCell ⟨w.heap.size, 3, none⟩ (.slice (T 2).A (T 2).n (T 2).c)).setCell ⟨w.heap.size, 4, none⟩ (.slice (T 3).A (T 3).n (T 3).c)).setCell ⟨w.heap.size, 5, none⟩ (.slice (T 4).A (T 4).n (T 4).c)).setCell ⟨w.heap.size, 6, none⟩ (.slice (T 5).A (T 5).n (T 5).c)).setCell ⟨w.heap.size, 7, none⟩ (.slice (T 6).A (T 6).n (T 6).c)).setCell ⟨w.heap.size, 8, none⟩ (.slice (T 7).A (T 7).n (T 7).c)) = X := ⟨_, rfl⟩
  rw [hw2] at hM ⊢
  clear c0 c1 c2 c3 c4 c5 c6 c7 c8 f0 f1 f2 f3 f4 f5 f6 f7 f8 hbox hres hO hbel hw2
  obtain ⟨c0, c1, c2, c3, c4, c5, c6, c7, c8⟩ := hM.ha.nine
  go_wp2_with fail
  refine (HRt.out T _ hM.ho.at).mono ?_
  rintro e w3 ⟨rfl, hb3⟩
  have hM3 := hM.up hb3
  clear c0 c1 c2 c3 c4 c5 c6 c7 c8 hM hb3
  cases hok : okB W with
  | false =>
    have HE : Hid (setN W id at_ = (W, 1)) := Lib.hid (by rw [setN, if_pos (.inl hok)])
    clear hok
    obtain ⟨c0, c1, c2, c3, c4, c5, c6, c7, c8⟩ := hM3.ha.nine
    obtain ⟨d0, d1, d2, d3, d4, d5, d6, d7, d8⟩ := hM3.hr.nine
    have f0 := hM3.hr.f 0
    have f1 := hM3.hr.f 1
    have f2 := hM3.hr.f 2
    have f3 := hM3.hr.f 3
    have f4 := hM3.hr.f 4
    have f5 := hM3.hr.f 5
    have f6 := hM3.hr.f 6
    have f7 := hM3.hr.f 7
    have f8 := hM3.hr.f 8
    have HO := Lib.hid (hM3.ho.far9 hM3.hr (by decide) (.int .i64 now) (.slice (T 0).A (T 0).n (T 0).c) (.slice (T 1).A (T 1).n (T 1).c) (.slice (T 2).A (T 2).n (T 2).c) (.slice (T 3).A (T 3).n (T 3).c) (.slice (T 4).A (T 4).n (T 4).c) (.slice (T 5).A (T 5).n (T 5).c) (.slice (T 6).A (T 6).n (T 6).c) (.slice (T 7).A (T 7).n (T 7).c))
    have HB := Lib.hid (below_set9 hM3.hb (Nat.le_succ _) (.int .i64 now) (.slice (T 0).A (T 0).n (T 0).c) (.slice (T 1).A (T 1).n (T 1).c) (.slice (T 2).A (T 2).n (T 2).c) (.slice (T 3).A (T 3).n (T 3).c) (.slice (T 4).A (T 4).n (T 4).c) (.slice (T 5).A (T 5).n (T 5).c) (.slice (T 6).A (T 6).n (T 6).c) (.slice (T 7).A (T 7).n (T 7).c))
    have hend : Box _ _ 25 (wcs now T) := hM3.hr.set9 (.int .i64 now) (.slice (T 0).A (T 0).n (T 0).c) (.slice (T 1).A (T 1).n (T 1).c) (.slice (T 2).A (T 2).n (T 2).c) (.slice (T 3).A (T 3).n (T 3).c) (.slice (T 4).A (T 4).n (T 4).c) (.slice (T 5).A (T 5).n (T 5).c) (.slice (T 6).A (T 6).n (T 6).c) (.slice (T 7).A (T 7).n (T 7).c)
    have HEnd := Lib.hid hend.nine
    clear hend
    go_wp2
    obtain ⟨q0, q1, q2, q3, q4, q5, q6, q7, q8⟩ := HEnd.out
    refine bodyPost_ret (v := .tuple #[wv now T, .int .i64 1]) (by simp [results, Try.results13, go_sem, q0, q1, q2, q3, q4, q5, q6, q7, q8]) rfl ?_
    rw [HE.out]; exact ⟨T, by rw [HN.out], HO.out, HB.out⟩
  | true =>
    have HOk := Lib.hid (ok_iff.1 hok)
    by_cases hid0 : id < 0
    · have HE : Hid (setN W id at_ = (W, 1)) := Lib.hid (by rw [setN, if_pos (.inr (.inl hid0))])
      clear hok
      obtain ⟨c0, c1, c2, c3, c4, c5, c6, c7, c8⟩ := hM3.ha.nine
      obtain ⟨d0, d1, d2, d3, d4, d5, d6, d7, d8⟩ := hM3.hr.nine
      have f0 := hM3.hr.f 0
      have f1 := hM3.hr.f 1
      have f2 := hM3.hr.f 2
      have f3 := hM3.hr.f 3
      have f4 := hM3.hr.f 4
      have f5 := hM3.hr.f 5
      have f6 := hM3.hr.f 6
      have f7 := hM3.hr.f 7
      have f8 := hM3.hr.f 8
      have HO := Lib.hid (hM3.ho.far9 hM3.hr (by decide) (.int .i64 now) (.slice (T 0).A (T 0).n (T 0).c) (.slice (T 1).A (T 1).n (T 1).c) (.slice (T 2).A (T 2).n (T 2).c) (.slice (T 3).A (T 3).n (T 3).c) (.slice (T 4).A (T 4).n (T 4).c) (.slice (T 5).A (T 5).n (T 5).c) (.slice (T 6).A (T 6).n (T 6).c) (.slice (T 7).A (T 7).n (T 7).c))
      have HB := Lib.hid (below_set9 hM3.hb (Nat.le_succ _) (.int .i64 now) (.slice (T 0).A (T 0).n (T 0).c) (.slice (T 1).A (T 1).n (T 1).c) (.slice (T 2).A (T 2).n (T 2).c) (.slice (T 3).A (T 3).n (T 3).c) (.slice (T 4).A (T 4).n (T 4).c) (.slice (T 5).A (T 5).n (T 5).c) (.slice (T 6).A (T 6).n (T 6).c) (.slice (T 7).A (T 7).n (T 7).c))
      have hend : Box _ _ 25 (wcs now T) := hM3.hr.set9 (.int .i64 now) (.slice (T 0).A (T 0).n (T 0).c) (.slice (T 1).A (T 1).n (T 1).c) (.slice (T 2).A (T 2).n (T 2).c) (.slice (T 3).A (T 3).n (T 3).c) (.slice (T 4).A (T 4).n (T 4).c) (.slice (T 5).A (T 5).n (T 5).c) (.slice (T 6).A (T 6).n (T 6).c) (.slice (T 7).A (T 7).n (T 7).c)
      have HEnd := Lib.hid hend.nine
      clear hend
      go_wp2
      obtain ⟨q0, q1, q2, q3, q4, q5, q6, q7, q8⟩ := HEnd.out
      refine bodyPost_ret (v := .tuple #[wv now T, .int .i64 1]) (by simp [results, Try.results13, go_sem, q0, q1, q2, q3, q4, q5, q6, q7, q8]) rfl ?_
      rw [HE.out]; exact ⟨T, by rw [HN.out], HO.out, HB.out⟩
    · obtain ⟨c0, c1, c2, c3, c4, c5, c6, c7, c8⟩ := hM3.ha.nine
      go_wp2_with fail
      refine (HAh.out T _).mono ?_
      rintro e w4 ⟨rfl, hb4⟩
      have hM4 := hM3.up hb4
      clear c0 c1 c2 c3 c4 c5 c6 c7 c8 hM3 hb4
      by_cases hah : now < at_ ∧ at_ ≤ 9007199254740992
      · rw [show aheadN now at_ = true from decide_eq_true hah]
        obtain ⟨g2, g3⟩ := hah
        have HS1 : Hid (setN W id at_ = if hasB W id then (W, 6) else if 64 ≤ m then (W, 4) else (W.put (at_ % 8).toNat (W.sl (at_ % 8).toNat ++ [(id, at_)]), 0)) := Lib.hid (by rw [setN, if_neg (by rw [hok, HN.out]; simp; omega), HM.out])
        clear hok
        obtain ⟨c0, c1, c2, c3, c4, c5, c6, c7, c8⟩ := hM4.ha.nine
        go_wp2_with fail
        refine (HSl.out T _ hM4.ho.at).mono ?_
        rintro e w5 ⟨rfl, hb5⟩
        have hM5 := hM4.up hb5
        clear c0 c1 c2 c3 c4 c5 c6 c7 c8 hM4 hb5
        rcases find_cases W id with ⟨i, k, hp, he⟩ | ⟨hnh, he⟩
        · have HE : Hid (setN W id at_ = (W, 6)) := Lib.hid (by rw [HS1.out, if_pos (has_iff.2 ⟨i, k, hp⟩)])
          rw [he]
          clear hp he HS1
          simp only
          obtain ⟨c0, c1, c2, c3, c4, c5, c6, c7, c8⟩ := hM5.ha.nine
          obtain ⟨d0, d1, d2, d3, d4, d5, d6, d7, d8⟩ := hM5.hr.nine
          have f0 := hM5.hr.f 0
          have f1 := hM5.hr.f 1
          have f2 := hM5.hr.f 2
          have f3 := hM5.hr.f 3
          have f4 := hM5.hr.f 4
          have f5 := hM5.hr.f 5
          have f6 := hM5.hr.f 6
          have f7 := hM5.hr.f 7
          have f8 := hM5.hr.f 8
          have HO := Lib.hid (hM5.ho.far9 hM5.hr (by decide) (.int .i64 now) (.slice (T 0).A (T 0).n (T 0).c) (.slice (T 1).A (T 1).n (T 1).c) (.slice (T 2).A (T 2).n (T 2).c) (.slice (T 3).A (T 3).n (T 3).c) (.slice (T 4).A (T 4).n (T 4).c) (.slice (T 5).A (T 5).n (T 5).c) (.slice (T 6).A (T 6).n (T 6).c) (.slice (T 7).A (T 7).n (T 7).c))
          have HB := Lib.hid (below_set9 hM5.hb (Nat.le_succ _) (.int .i64 now) (.slice (T 0).A (T 0).n (T 0).c) (.slice (T 1).A (T 1).n (T 1).c) (.slice (T 2).A (T 2).n (T 2).c) (.slice (T 3).A (T 3).n (T 3).c) (.slice (T 4).A (T 4).n (T 4).c) (.slice (T 5).A (T 5).n (T 5).c) (.slice (T 6).A (T 6).n (T 6).c) (.slice (T 7).A (T 7).n (T 7).c))
          have hend : Box _ _ 25 (wcs now T) := hM5.hr.set9 (.int .i64 now) (.slice (T 0).A (T 0).n (T 0).c) (.slice (T 1).A (T 1).n (T 1).c) (.slice (T 2).A (T 2).n (T 2).c) (.slice (T 3).A (T 3).n (T 3).c) (.slice (T 4).A (T 4).n (T 4).c) (.slice (T 5).A (T 5).n (T 5).c) (.slice (T 6).A (T 6).n (T 6).c) (.slice (T 7).A (T 7).n (T 7).c)
          have HEnd := Lib.hid hend.nine
          clear hend
          go_wp2
          obtain ⟨q0, q1, q2, q3, q4, q5, q6, q7, q8⟩ := HEnd.out
          refine bodyPost_ret (v := .tuple #[wv now T, .int .i64 6]) (by simp [results, Try.results13, go_sem, q0, q1, q2, q3, q4, q5, q6, q7, q8]) rfl ?_
          rw [HE.out]; exact ⟨T, by rw [HN.out], HO.out, HB.out⟩
        · have HS2 : Hid (setN W id at_ = if 64 ≤ m then (W, 4) else (W.put (at_ % 8).toNat (W.sl (at_ % 8).toNat ++ [(id, at_)]), 0)) := Lib.hid (by rw [HS1.out, if_neg (by rw [has_not.2 hnh]; simp)])
          rw [he]
          clear hnh he HS1
          simp only
          obtain ⟨c0, c1, c2, c3, c4, c5, c6, c7, c8⟩ := hM5.ha.nine
          go_wp2_with fail
          refine (HCt.out T _ hM5.ho.at).mono ?_
          rintro e w6 ⟨rfl, hb6⟩
          have hM6 := hM5.up hb6
          clear c0 c1 c2 c3 c4 c5 c6 c7 c8 hM5 hb6
          have hm64 : m ≤ 64 := by rw [← HM.out]; exact HOk.out.few
          by_cases hm4 : m = 64
          · have HE : Hid (setN W id at_ = (W, 4)) := Lib.hid (by rw [HS2.out, if_pos (by omega)])
            clear HS2
            subst hm4
            obtain ⟨c0, c1, c2, c3, c4, c5, c6, c7, c8⟩ := hM6.ha.nine
            obtain ⟨d0, d1, d2, d3, d4, d5, d6, d7, d8⟩ := hM6.hr.nine
            have f0 := hM6.hr.f 0
            have f1 := hM6.hr.f 1
            have f2 := hM6.hr.f 2
            have f3 := hM6.hr.f 3
            have f4 := hM6.hr.f 4
            have f5 := hM6.hr.f 5
            have f6 := hM6.hr.f 6
            have f7 := hM6.hr.f 7
            have f8 := hM6.hr.f 8
            have HO := Lib.hid (hM6.ho.far9 hM6.hr (by decide) (.int .i64 now) (.slice (T 0).A (T 0).n (T 0).c) (.slice (T 1).A (T 1).n (T 1).c) (.slice (T 2).A (T 2).n (T 2).c) (.slice (T 3).A (T 3).n (T 3).c) (.slice (T 4).A (T 4).n (T 4).c) (.slice (T 5).A (T 5).n (T 5).c) (.slice (T 6).A (T 6).n (T 6).c) (.slice (T 7).A (T 7).n (T 7).c))
            have HB := Lib.hid (below_set9 hM6.hb (Nat.le_succ _) (.int .i64 now) (.slice (T 0).A (T 0).n (T 0).c) (.slice (T 1).A (T 1).n (T 1).c) (.slice (T 2).A (T 2).n (T 2).c) (.slice (T 3).A (T 3).n (T 3).c) (.slice (T 4).A (T 4).n (T 4).c) (.slice (T 5).A (T 5).n (T 5).c) (.slice (T 6).A (T 6).n (T 6).c) (.slice (T 7).A (T 7).n (T 7).c))
            have hend : Box _ _ 25 (wcs now T) := hM6.hr.set9 (.int .i64 now) (.slice (T 0).A (T 0).n (T 0).c) (.slice (T 1).A (T 1).n (T 1).c) (.slice (T 2).A (T 2).n (T 2).c) (.slice (T 3).A (T 3).n (T 3).c) (.slice (T 4).A (T 4).n (T 4).c) (.slice (T 5).A (T 5).n (T 5).c) (.slice (T 6).A (T 6).n (T 6).c) (.slice (T 7).A (T 7).n (T 7).c)
            have HEnd := Lib.hid hend.nine
            clear hend
            go_wp2
            obtain ⟨q0, q1, q2, q3, q4, q5, q6, q7, q8⟩ := HEnd.out
            refine bodyPost_ret (v := .tuple #[wv now T, .int .i64 4]) (by simp [results, Try.results13, go_sem, q0, q1, q2, q3, q4, q5, q6, q7, q8]) rfl ?_
            rw [HE.out]; exact ⟨T, by rw [HN.out], HO.out, HB.out⟩
          · obtain ⟨r, hr⟩ : ∃ r : Nat, (at_ % 8).toNat = r := ⟨_, rfl⟩
            have hr8 : r < 8 := by omega
            have h0n : 0 ≤ now := by rw [← HN.out]; exact HOk.out.lo
            have t1 : at_.tmod 8 = (r : Int) := by rw [Int.tmod_eq_emod_of_nonneg (by omega)]; omega
            have HE : Hid (setN W id at_ = (W.put r (W.sl r ++ [(id, at_)]), 0)) := Lib.hid (by rw [HS2.out, if_neg (by omega), hr])
            have hmz : ¬ (m : Int) = 64 := by omega
            clear hr HS2
            obtain ⟨i0, hi, hz0, hz1, hz2⟩ := info_parts info34
            have hc := hM6.ha.slot hr8
            have hlen := (hM6.ho.row r hr8).len
            have hn1 : (T r).n ≤ 64 := by have := len_le W hr8; rw [HM.out] at this; omega
            clear hlen
            have HR := Lib.hid (hM6.up (ba1 w6 (.cells #[.int .i64 id, .int .i64 at_] 34)))
            have HSrc : Hid (Src (w6.alloc (.cells #[.int .i64 id, .int .i64 at_] 34)) 2 (some ⟨w6.heap.size, 0, none⟩) 1 1 (tmcs [(id, at_)])) := Lib.hid (by
              have hb := Box.new w6 34 #[.int .i64 id, .int .i64 at_]
              refine .inr ⟨_, rfl, rfl, fun j u hu => ?_⟩
              rw [Addr.add_lit, Nat.zero_add]
              refine hb.c j ?_
              have : (#[Value.int .i64 id, Value.int .i64 at_])[j]? = (tmcs [(id, at_)])[j]? := by rw [← Array.getElem?_toList]; rfl
              rw [this]
              exact hu)
            have hBw := HR.out.le
            clear hM6
            go_wp2_with (at_builtin; refine wpList_app _ rfl _ _ 22 rfl w.heap.size 34 i0 _ 2 16 (by decide) Try.underlying22 hi hz0 hz1 hz2 rfl _ _ _ rfl (HR.out.ho.row r hr8) (some ⟨w6.heap.size, 0, none⟩) 1 1 (tmcs [(id, at_)]) rfl HSrc.out (tmcs_one _) ?_ ?_ hBw ((T r).n + 1) rfl ?_; (unfold maxLen; omega); omega; intro A' c' w' h1 h2 h3; refine Hid.out ?_)
            have hg : (w6.alloc (.cells #[.int .i64 id, .int .i64 at_] 34)).grownBy w' (Value.slice (T r).A (T r).n (T r).c).ownBlock := h2
            have hk : (Value.slice A' ((T r).n + 1) c').ownBlock = (Value.slice (T r).A (T r).n (T r).c).ownBlock ∨ (Value.slice A' ((T r).n + 1) c').ownBlock = some (w6.alloc (.cells #[.int .i64 id, .int .i64 at_] 34)).heap.size := h3
            have hrow : TRow w' w.heap.size ⟨A', (T r).n + 1, c'⟩ (W.sl r ++ [(id, at_)]) := by
              show w'.ownsRow _ _ _ _ _ _
              rw [tmcs_app]
              exact h1
            clear h1 h2 h3 hc
            have hO5 := HR.out.ho.grown hr8 hrow hg hk
            have ha5 := HR.out.ha.grown (HR.out.ho.row r hr8) hg
            have hres5 := HR.out.hr.grown (HR.out.ho.row r hr8) hg
            have hbel5 : Below w.heap.size w w' := grown_base (HR.out.ho.row r hr8) hg HR.out.hb (Nat.le_refl _) hBw
            have hle5 : w.heap.size ≤ w'.heap.size := Nat.le_trans hBw hg.size
            have hc := ha5.slot hr8
            have hfz := ha5.f (1 + r)
            have ha6 := ha5.putS hr8 A' ((T r).n + 1) c'
            have hres6 := hres5.far (p := ⟨w.heap.size, 1 + r, none⟩) (by simp) (.slice A' ((T r).n + 1) c')
            have hO6 := hO5.farB ha5 (by decide) (1 + r) (.slice A' ((T r).n + 1) c')
            have hbel6 := hbel5.setCell (p := ⟨w.heap.size, 1 + r, none⟩) (Nat.le_refl _) (.slice A' ((T r).n + 1) c')
            clear hO5 hres5 hbel5 HR HSrc hg hk hrow hle5
            have hnowp : (W.put r (W.sl r ++ [(id, at_)])).now = now := HN.out
            have HNP := Lib.hid hnowp
            clear hnowp
            obtain ⟨U, hU⟩ : ∃ U, putS T r ⟨A', (T r).n + 1, c'⟩ = U := ⟨_, rfl⟩
            rw [hU] at ha6 hO6
            clear hU ha5
            refine Lib.hid ?_
            obtain ⟨c0, c1, c2, c3, c4, c5, c6, c7, c8⟩ := ha6.nine
            obtain ⟨d0, d1, d2, d3, d4, d5, d6, d7, d8⟩ := hres6.nine
            have f0 := hres6.f 0
            have f1 := hres6.f 1
            have f2 := hres6.f 2
            have f3 := hres6.f 3
            have f4 := hres6.f 4
            have f5 := hres6.f 5
            have f6 := hres6.f 6
            have f7 := hres6.f 7
            have f8 := hres6.f 8
            have HO := Lib.hid (hO6.far9 hres6 (by decide) (.int .i64 now) (.slice (U 0).A (U 0).n (U 0).c) (.slice (U 1).A (U 1).n (U 1).c) (.slice (U 2).A (U 2).n (U 2).c) (.slice (U 3).A (U 3).n (U 3).c) (.slice (U 4).A (U 4).n (U 4).c) (.slice (U 5).A (U 5).n (U 5).c) (.slice (U 6).A (U 6).n (U 6).c) (.slice (U 7).A (U 7).n (U 7).c))
            have HB := Lib.hid (below_set9 hbel6 (Nat.le_succ _) (.int .i64 now) (.slice (U 0).A (U 0).n (U 0).c) (.slice (U 1).A (U 1).n (U 1).c) (.slice (U 2).A (U 2).n (U 2).c) (.slice (U 3).A (U 3).n (U 3).c) (.slice (U 4).A (U 4).n (U 4).c) (.slice (U 5).A (U 5).n (U 5).c) (.slice (U 6).A (U 6).n (U 6).c) (.slice (U 7).A (U 7).n (U 7).c))
            have hend : Box _ _ 25 (wcs now U) := hres6.set9 (.int .i64 now) (.slice (U 0).A (U 0).n (U 0).c) (.slice (U 1).A (U 1).n (U 1).c) (.slice (U 2).A (U 2).n (U 2).c) (.slice (U 3).A (U 3).n (U 3).c) (.slice (U 4).A (U 4).n (U 4).c) (.slice (U 5).A (U 5).n (U 5).c) (.slice (U 6).A (U 6).n (U 6).c) (.slice (U 7).A (U 7).n (U 7).c)
            have HEnd := Lib.hid hend.nine
            clear hend
            go_wp2
            obtain ⟨q0, q1, q2, q3, q4, q5, q6, q7, q8⟩ := HEnd.out
            refine bodyPost_ret (v := .tuple #[wv now U, .int .i64 0]) (by simp [results, Try.results13, go_sem, q0, q1, q2, q3, q4, q5, q6, q7, q8]) rfl ?_
            rw [HE.out]; exact ⟨U, by rw [HNP.out], HO.out, HB.out⟩
      · rw [show aheadN now at_ = false from decide_eq_false hah]
        have HE : Hid (setN W id at_ = (W, 1)) := Lib.hid (by rw [setN, if_pos (by rw [HN.out]; omega)])
        clear hok hah
        obtain ⟨c0, c1, c2, c3, c4, c5, c6, c7, c8⟩ := hM4.ha.nine
        obtain ⟨d0, d1, d2, d3, d4, d5, d6, d7, d8⟩ := hM4.hr.nine
        have f0 := hM4.hr.f 0
        have f1 := hM4.hr.f 1
        have f2 := hM4.hr.f 2
        have f3 := hM4.hr.f 3
        have f4 := hM4.hr.f 4
        have f5 := hM4.hr.f 5
        have f6 := hM4.hr.f 6
        have f7 := hM4.hr.f 7
        have f8 := hM4.hr.f 8
        have HO := Lib.hid (hM4.ho.far9 hM4.hr (by decide) (.int .i64 now) (.slice (T 0).A (T 0).n (T 0).c) (.slice (T 1).A (T 1).n (T 1).c) (.slice (T 2).A (T 2).n (T 2).c) (.slice (T 3).A (T 3).n (T 3).c) (.slice (T 4).A (T 4).n (T 4).c) (.slice (T 5).A (T 5).n (T 5).c) (.slice (T 6).A (T 6).n (T 6).c) (.slice (T 7).A (T 7).n (T 7).c))
        have HB := Lib.hid (below_set9 hM4.hb (Nat.le_succ _) (.int .i64 now) (.slice (T 0).A (T 0).n (T 0).c) (.slice (T 1).A (T 1).n (T 1).c) (.slice (T 2).A (T 2).n (T 2).c) (.slice (T 3).A (T 3).n (T 3).c) (.slice (T 4).A (T 4).n (T 4).c) (.slice (T 5).A (T 5).n (T 5).c) (.slice (T 6).A (T 6).n (T 6).c) (.slice (T 7).A (T 7).n (T 7).c))
        have hend : Box _ _ 25 (wcs now T) := hM4.hr.set9 (.int .i64 now) (.slice (T 0).A (T 0).n (T 0).c) (.slice (T 1).A (T 1).n (T 1).c) (.slice (T 2).A (T 2).n (T 2).c) (.slice (T 3).A (T 3).n (T 3).c) (.slice (T 4).A (T 4).n (T 4).c) (.slice (T 5).A (T 5).n (T 5).c) (.slice (T 6).A (T 6).n (T 6).c) (.slice (T 7).A (T 7).n (T 7).c)
        have HEnd := Lib.hid hend.nine
        clear hend
        go_wp2
        obtain ⟨q0, q1, q2, q3, q4, q5, q6, q7, q8⟩ := HEnd.out
        refine bodyPost_ret (v := .tuple #[wv now T, .int .i64 1]) (by simp [results, Try.results13, go_sem, q0, q1, q2, q3, q4, q5, q6, q7, q8]) rfl ?_
        rw [HE.out]; exact ⟨T, by rw [HN.out], HO.out, HB.out⟩

end Go.Proofs.Ytncbfkoldllbpaa
