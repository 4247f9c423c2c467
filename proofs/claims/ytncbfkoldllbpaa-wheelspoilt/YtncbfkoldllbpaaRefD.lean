/-
  The walk of the document's own Set.
-/
import Derived.Test.YtncbfkoldllbpaaRefC
namespace Go.Proofs.Ytncbfkoldllbpaa
open Go.RowKit

theorem Box.grown {w w' : World} {p B : Nat} {cs : Array Value} {s : Sli} {xs : List Tm} (h : Box w p 25 cs) (hr : TRow w B s xs) (hg : w.grownBy w' (Value.slice s.A s.n s.c).ownBlock) : Box w' p 25 cs := by
  refine (hg.block p h.lt ?_).trans h
  intro e
  cases hA : s.A with
  | none => rw [hA] at e; cases e
  | some q =>
    rw [hA] at e
    exact hr.ne h (by decide) q hA (Option.some.inj e).symm

/-- a slot's row has grown, or was laid anew -/
theorem Own8.grown {w w' : World} {B : Nat} {W : Wl} {T : Nat → Sli} (h : Own8 w B W T) {r : Nat} (hr : r < 8) {s : Sli} {xs : List Tm} (h1 : TRow w' B s xs) (hg : w.grownBy w' (Value.slice (T r).A (T r).n (T r).c).ownBlock)
    (hk : (Value.slice s.A s.n s.c).ownBlock = (Value.slice (T r).A (T r).n (T r).c).ownBlock ∨ (Value.slice s.A s.n s.c).ownBlock = some w.heap.size) : Own8 w' B (W.put r xs) (putS T r s) := by
  have hold : ∀ j, j < 8 → j ≠ r → ∀ q, (T j).A = some q → some q.block ≠ (Value.slice (T r).A (T r).n (T r).c).ownBlock := by
    intro j hj hjr q hq e
    cases hA : (T r).A with
    | none => rw [hA] at e; cases e
    | some p =>
      rw [hA] at e
      exact h.sep j r hj hr hjr q p hq hA (Option.some.inj e)
  have hnew : ∀ j, j < 8 → j ≠ r → ∀ p q, s.A = some p → (T j).A = some q → p.block ≠ q.block := by
    intro j hj hjr p q hp hq e
    rw [hp] at hk
    rcases hk with h2 | h2
    · exact hold j hj hjr q hq (by rw [← h2, ← e]; rfl)
    · have := ((h.row j hj).blk q hq).2.1
      have h3 : p.block = w.heap.size := Option.some.inj h2
      omega
  refine ⟨fun j hj => ?_, ?_⟩
  · by_cases hjr : j = r
    · subst hjr
      rw [putS_same]
      simpa [Wl.put] using h1
    · rw [putS_other _ hjr]
      have e : (W.put r xs).sl j = W.sl j := by simp [Wl.put, hjr]
      rw [e]
      exact (h.row j hj).keep fun q hq => hg.block _ ((h.row j hj).blk q hq).2.1 (hold j hj hjr q hq)
  · intro i j hi hj hij p q hp hq
    by_cases hir : i = r
    · subst hir
      rw [putS_same] at hp
      rw [putS_other _ (Ne.symm hij)] at hq
      exact hnew j hj (Ne.symm hij) p q hp hq
    · rw [putS_other _ hir] at hp
      by_cases hjr : j = r
      · subst hjr
        rw [putS_same] at hq
        exact (hnew i hi hir q p hq hp).symm
      · rw [putS_other _ hjr] at hq
        exact h.sep i j hi hj hij p q hp hq
theorem Own8.farB {w : World} {B : Nat} {W : Wl} {S : Nat → Sli} (h : Own8 w B W S) {p : Nat} {t : TypeId} {cs : Array Value} (hb : Box w p t cs) (ht : t ≠ 34) (i : Nat) (u : Value) : Own8 (w.setCell ⟨p, i, none⟩ u) B W S := ⟨fun j hj => (h.row j hj).farB hb ht i u, h.sep⟩

/-- a wheel of its own is handed back, and an error -/
def WhEnds (q : Wl × Int) (w : World) (e : Ending) (w' : World) : Prop :=
  ∃ S, e = .returned (.tuple #[wv q.1.now S, .int .i64 q.2]) ∧ Own8 w' w.heap.size q.1 S ∧ Below w.heap.size w w'

set_option maxRecDepth 100000 in
set_option maxHeartbeats 4000000 in
theorem rset_any (W : Wl) (S : Nat → Sli) (id at_ : Int) (w : World) (h : At w W S) (hf : manyN W ≤ 1000000) : Calls Try.prog 15 #[wv W.now S, .int .i64 id, .int .i64 at_] w (WhEnds (setN W id at_) w) := by
  have HOw := Lib.hid (fun W1 (hb : Below w.heap.size w W1) => own_any W S W1 (h.up hb) hf)
  have HRt := Lib.hid (fun W1 (hb : Below w.heap.size w W1) => rright_any W S W1 (h.up hb) hf)
  have HMn := Lib.hid (fun W1 (hb : Below w.heap.size w W1) => many_any W S W1 (h.up hb) hf)
  have HFd := Lib.hid (fun W1 (hb : Below w.heap.size w W1) => find_any W S id W1 (h.up hb))
  have HH := Lib.hid h
  clear h
  obtain ⟨now, hn⟩ : ∃ now, W.now = now := ⟨_, rfl⟩
  have HN := Lib.hid hn
  rw [hn] at HOw HRt HMn HFd ⊢
  clear hn
  unfold wv at HOw HRt HMn HFd ⊢
  go_enter Try.func15, Try.ntmps15
  go_wp2_with fail
  refine (HOw.out _ (ba2 _ _ _)).mono ?_
  rintro e w1 ⟨T, rfl, hO, hb1⟩
  rw [HN.out]
  have hbox := ((Box.new w 25 (wcs now S)).alloc (.cells (wcs 0 (fun _ => ⟨none, 0, 0⟩)) 25)).up hb1
  have hres := (Box.mk' (w.alloc (.cells (wcs now S) 25)) 25 (wcs 0 (fun _ => ⟨none, 0, 0⟩)) (w.heap.size + 1) (by simp)).up hb1
  have hbel := bon (ba2 w _ _) hb1
  have hO := hO.mono (B' := w.heap.size) (by simp; omega)
  clear hb1
  unfold wv
  have hboxA := hbox.alloc (.cells (wcs now T) 25)
  have hresA := hres.alloc (.cells (wcs now T) 25)
  have haA := Box.new w1 25 (wcs now T)
  have hOA := hO.up (ba1 w1 (.cells (wcs now T) 25))
  have hbelA := bon hbel (ba1 w1 (.cells (wcs now T) 25))
  obtain ⟨c0, c1, c2, c3, c4, c5, c6, c7, c8⟩ := hboxA.nine
  go_wp2_with fail
  refine (HRt.out _ hbelA).mono ?_
  rintro e w2 ⟨rfl, hb2⟩
  have hbox2 := hboxA.up hb2
  have hres2 := hresA.up hb2
  have ha2 := haA.up hb2
  have hO2 := hOA.up hb2
  have hbel2 := bon hbelA hb2
  obtain ⟨ga, hga⟩ : ∃ ga, w1.heap.size = ga := ⟨_, rfl⟩
  have hgw : w.heap.size + 1 < ga := by rw [← hga]; exact hres.lt
  rw [hga] at ha2 ⊢
  clear c0 c1 c2 c3 c4 c5 c6 c7 c8 hboxA hresA haA hOA hbelA hb2 hbox hres hO hbel hga
  cases hok : okB W with
  | false =>
    have HE : Hid (setN W id at_ = (W, 1)) := Lib.hid (by rw [setN, if_pos (.inl hok)])
    clear hok
    obtain ⟨c0, c1, c2, c3, c4, c5, c6, c7, c8⟩ := ha2.nine
    obtain ⟨d0, d1, d2, d3, d4, d5, d6, d7, d8⟩ := hres2.nine
    have f0 := hres2.f 0
    have f1 := hres2.f 1
    have f2 := hres2.f 2
    have f3 := hres2.f 3
    have f4 := hres2.f 4
    have f5 := hres2.f 5
    have f6 := hres2.f 6
    have f7 := hres2.f 7
    have f8 := hres2.f 8
    have HO := Lib.hid (hO2.far9 hres2 (by decide) (.int .i64 now) (.slice (T 0).A (T 0).n (T 0).c) (.slice (T 1).A (T 1).n (T 1).c) (.slice (T 2).A (T 2).n (T 2).c) (.slice (T 3).A (T 3).n (T 3).c) (.slice (T 4).A (T 4).n (T 4).c) (.slice (T 5).A (T 5).n (T 5).c) (.slice (T 6).A (T 6).n (T 6).c) (.slice (T 7).A (T 7).n (T 7).c))
    have HB := Lib.hid (below_set9 hbel2 (Nat.le_succ _) (.int .i64 now) (.slice (T 0).A (T 0).n (T 0).c) (.slice (T 1).A (T 1).n (T 1).c) (.slice (T 2).A (T 2).n (T 2).c) (.slice (T 3).A (T 3).n (T 3).c) (.slice (T 4).A (T 4).n (T 4).c) (.slice (T 5).A (T 5).n (T 5).c) (.slice (T 6).A (T 6).n (T 6).c) (.slice (T 7).A (T 7).n (T 7).c))
    have hend : Box _ _ 25 (wcs now T) := hres2.set9 (.int .i64 now) (.slice (T 0).A (T 0).n (T 0).c) (.slice (T 1).A (T 1).n (T 1).c) (.slice (T 2).A (T 2).n (T 2).c) (.slice (T 3).A (T 3).n (T 3).c) (.slice (T 4).A (T 4).n (T 4).c) (.slice (T 5).A (T 5).n (T 5).c) (.slice (T 6).A (T 6).n (T 6).c) (.slice (T 7).A (T 7).n (T 7).c)
    have HEnd := Lib.hid hend.nine
    clear hend
    go_wp2
    obtain ⟨q0, q1, q2, q3, q4, q5, q6, q7, q8⟩ := HEnd.out
    refine bodyPost_ret (v := .tuple #[wv now T, .int .i64 1]) (by simp [results, Try.results15, go_sem, q0, q1, q2, q3, q4, q5, q6, q7, q8]) rfl ?_
    rw [HE.out]; exact ⟨T, by rw [HN.out], HO.out, HB.out⟩
  | true =>
    have hcase : (id < 0 ∨ (0 ≤ id ∧ at_ ≤ now) ∨ (0 ≤ id ∧ now < at_ ∧ 9007199254740992 < at_)) ∨ (0 ≤ id ∧ now < at_ ∧ at_ ≤ 9007199254740992) := by omega
    have e0 := hbox2.c 0 (v := .int .i64 now) rfl
    rcases hcase with hbad | ⟨g1, g2, g3⟩
    · have HE : Hid (setN W id at_ = (W, 1)) := Lib.hid (by rw [setN, HN.out, if_pos (.inr (by omega))])
      clear hok
      rcases hbad with g1 | ⟨g1, g2⟩ | ⟨g1, g2, g3⟩
      all_goals
        obtain ⟨c0, c1, c2, c3, c4, c5, c6, c7, c8⟩ := ha2.nine
        obtain ⟨d0, d1, d2, d3, d4, d5, d6, d7, d8⟩ := hres2.nine
        have f0 := hres2.f 0
        have f1 := hres2.f 1
        have f2 := hres2.f 2
        have f3 := hres2.f 3
        have f4 := hres2.f 4
        have f5 := hres2.f 5
        have f6 := hres2.f 6
        have f7 := hres2.f 7
        have f8 := hres2.f 8
        have HO := Lib.hid (hO2.far9 hres2 (by decide) (.int .i64 now) (.slice (T 0).A (T 0).n (T 0).c) (.slice (T 1).A (T 1).n (T 1).c) (.slice (T 2).A (T 2).n (T 2).c) (.slice (T 3).A (T 3).n (T 3).c) (.slice (T 4).A (T 4).n (T 4).c) (.slice (T 5).A (T 5).n (T 5).c) (.slice (T 6).A (T 6).n (T 6).c) (.slice (T 7).A (T 7).n (T 7).c))
        have HB := Lib.hid (below_set9 hbel2 (Nat.le_succ _) (.int .i64 now) (.slice (T 0).A (T 0).n (T 0).c) (.slice (T 1).A (T 1).n (T 1).c) (.slice (T 2).A (T 2).n (T 2).c) (.slice (T 3).A (T 3).n (T 3).c) (.slice (T 4).A (T 4).n (T 4).c) (.slice (T 5).A (T 5).n (T 5).c) (.slice (T 6).A (T 6).n (T 6).c) (.slice (T 7).A (T 7).n (T 7).c))
        have hend : Box _ _ 25 (wcs now T) := hres2.set9 (.int .i64 now) (.slice (T 0).A (T 0).n (T 0).c) (.slice (T 1).A (T 1).n (T 1).c) (.slice (T 2).A (T 2).n (T 2).c) (.slice (T 3).A (T 3).n (T 3).c) (.slice (T 4).A (T 4).n (T 4).c) (.slice (T 5).A (T 5).n (T 5).c) (.slice (T 6).A (T 6).n (T 6).c) (.slice (T 7).A (T 7).n (T 7).c)
        have HEnd := Lib.hid hend.nine
        clear hend
        go_wp2
        obtain ⟨q0, q1, q2, q3, q4, q5, q6, q7, q8⟩ := HEnd.out
        refine bodyPost_ret (v := .tuple #[wv now T, .int .i64 1]) (by simp [results, Try.results15, go_sem, q0, q1, q2, q3, q4, q5, q6, q7, q8]) rfl ?_
        rw [HE.out]; exact ⟨T, by rw [HN.out], HO.out, HB.out⟩
    · have HS1 : Hid (setN W id at_ = if hasB W id then (W, 6) else if 64 ≤ manyN W then (W, 4) else (W.put (at_ % 8).toNat (W.sl (at_ % 8).toNat ++ [(id, at_)]), 0)) := Lib.hid (by rw [setN, HN.out, if_neg (by rw [hok]; simp; omega)])
      have hnow0 : 0 ≤ now := by have := (ok_iff.1 hok).lo; rw [HN.out] at this; exact this
      clear hok
      obtain ⟨c0, c1, c2, c3, c4, c5, c6, c7, c8⟩ := hbox2.nine
      go_wp2_with fail
      refine (HFd.out _ hbel2).mono ?_
      rintro e w3 ⟨rfl, hb3⟩
      have hbox3 := hbox2.up hb3
      have hres3 := hres2.up hb3
      have ha3 := ha2.up hb3
      have hO3 := hO2.up hb3
      have hbel3 := bon hbel2 hb3
      clear c0 c1 c2 c3 c4 c5 c6 c7 c8 hbox2 hres2 ha2 hO2 hbel2 hb3 e0
      rcases find_cases W id with ⟨i, k, hp, he⟩ | ⟨hnh, he⟩
      · have HE : Hid (setN W id at_ = (W, 6)) := Lib.hid (by rw [HS1.out, if_pos (has_iff.2 ⟨i, k, hp⟩)])
        rw [he]
        clear hp he
        obtain ⟨c0, c1, c2, c3, c4, c5, c6, c7, c8⟩ := ha3.nine
        obtain ⟨d0, d1, d2, d3, d4, d5, d6, d7, d8⟩ := hres3.nine
        have f0 := hres3.f 0
        have f1 := hres3.f 1
        have f2 := hres3.f 2
        have f3 := hres3.f 3
        have f4 := hres3.f 4
        have f5 := hres3.f 5
        have f6 := hres3.f 6
        have f7 := hres3.f 7
        have f8 := hres3.f 8
        have HO := Lib.hid (hO3.far9 hres3 (by decide) (.int .i64 now) (.slice (T 0).A (T 0).n (T 0).c) (.slice (T 1).A (T 1).n (T 1).c) (.slice (T 2).A (T 2).n (T 2).c) (.slice (T 3).A (T 3).n (T 3).c) (.slice (T 4).A (T 4).n (T 4).c) (.slice (T 5).A (T 5).n (T 5).c) (.slice (T 6).A (T 6).n (T 6).c) (.slice (T 7).A (T 7).n (T 7).c))
        have HB := Lib.hid (below_set9 hbel3 (Nat.le_succ _) (.int .i64 now) (.slice (T 0).A (T 0).n (T 0).c) (.slice (T 1).A (T 1).n (T 1).c) (.slice (T 2).A (T 2).n (T 2).c) (.slice (T 3).A (T 3).n (T 3).c) (.slice (T 4).A (T 4).n (T 4).c) (.slice (T 5).A (T 5).n (T 5).c) (.slice (T 6).A (T 6).n (T 6).c) (.slice (T 7).A (T 7).n (T 7).c))
        have hend : Box _ _ 25 (wcs now T) := hres3.set9 (.int .i64 now) (.slice (T 0).A (T 0).n (T 0).c) (.slice (T 1).A (T 1).n (T 1).c) (.slice (T 2).A (T 2).n (T 2).c) (.slice (T 3).A (T 3).n (T 3).c) (.slice (T 4).A (T 4).n (T 4).c) (.slice (T 5).A (T 5).n (T 5).c) (.slice (T 6).A (T 6).n (T 6).c) (.slice (T 7).A (T 7).n (T 7).c)
        have HEnd := Lib.hid hend.nine
        clear hend
        go_wp2
        obtain ⟨q0, q1, q2, q3, q4, q5, q6, q7, q8⟩ := HEnd.out
        refine bodyPost_ret (v := .tuple #[wv now T, .int .i64 6]) (by simp [results, Try.results15, go_sem, q0, q1, q2, q3, q4, q5, q6, q7, q8]) rfl ?_
        rw [HE.out]; exact ⟨T, by rw [HN.out], HO.out, HB.out⟩
      · have HS2 : Hid (setN W id at_ = if 64 ≤ manyN W then (W, 4) else (W.put (at_ % 8).toNat (W.sl (at_ % 8).toNat ++ [(id, at_)]), 0)) := Lib.hid (by rw [HS1.out, if_neg (by rw [has_not.2 hnh]; simp)])
        rw [he]
        clear hnh he HS1
        obtain ⟨c0, c1, c2, c3, c4, c5, c6, c7, c8⟩ := hbox3.nine
        go_wp2_with fail
        refine (HMn.out _ hbel3).mono ?_
        rintro e w4 ⟨rfl, hb4⟩
        have hres4 := hres3.up hb4
        have ha4 := ha3.up hb4
        have hO4 := hO3.up hb4
        have hbel4 := bon hbel3 hb4
        clear c0 c1 c2 c3 c4 c5 c6 c7 c8 hbox3 hres3 ha3 hO3 hbel3 hb4
        obtain ⟨m, hm⟩ : ∃ m, manyN W = m := ⟨_, rfl⟩
        rw [hm] at HS2 hf ⊢
        have HM := Lib.hid hm
        clear hm
        by_cases hm64 : 64 ≤ m
        · have HE : Hid (setN W id at_ = (W, 4)) := Lib.hid (by rw [HS2.out, if_pos hm64])
          obtain ⟨c0, c1, c2, c3, c4, c5, c6, c7, c8⟩ := ha4.nine
          obtain ⟨d0, d1, d2, d3, d4, d5, d6, d7, d8⟩ := hres4.nine
          have f0 := hres4.f 0
          have f1 := hres4.f 1
          have f2 := hres4.f 2
          have f3 := hres4.f 3
          have f4 := hres4.f 4
          have f5 := hres4.f 5
          have f6 := hres4.f 6
          have f7 := hres4.f 7
          have f8 := hres4.f 8
          have HO := Lib.hid (hO4.far9 hres4 (by decide) (.int .i64 now) (.slice (T 0).A (T 0).n (T 0).c) (.slice (T 1).A (T 1).n (T 1).c) (.slice (T 2).A (T 2).n (T 2).c) (.slice (T 3).A (T 3).n (T 3).c) (.slice (T 4).A (T 4).n (T 4).c) (.slice (T 5).A (T 5).n (T 5).c) (.slice (T 6).A (T 6).n (T 6).c) (.slice (T 7).A (T 7).n (T 7).c))
          have HB := Lib.hid (below_set9 hbel4 (Nat.le_succ _) (.int .i64 now) (.slice (T 0).A (T 0).n (T 0).c) (.slice (T 1).A (T 1).n (T 1).c) (.slice (T 2).A (T 2).n (T 2).c) (.slice (T 3).A (T 3).n (T 3).c) (.slice (T 4).A (T 4).n (T 4).c) (.slice (T 5).A (T 5).n (T 5).c) (.slice (T 6).A (T 6).n (T 6).c) (.slice (T 7).A (T 7).n (T 7).c))
          have hend : Box _ _ 25 (wcs now T) := hres4.set9 (.int .i64 now) (.slice (T 0).A (T 0).n (T 0).c) (.slice (T 1).A (T 1).n (T 1).c) (.slice (T 2).A (T 2).n (T 2).c) (.slice (T 3).A (T 3).n (T 3).c) (.slice (T 4).A (T 4).n (T 4).c) (.slice (T 5).A (T 5).n (T 5).c) (.slice (T 6).A (T 6).n (T 6).c) (.slice (T 7).A (T 7).n (T 7).c)
          have HEnd := Lib.hid hend.nine
          clear hend
          go_wp2
          obtain ⟨q0, q1, q2, q3, q4, q5, q6, q7, q8⟩ := HEnd.out
          refine bodyPost_ret (v := .tuple #[wv now T, .int .i64 4]) (by simp [results, Try.results15, go_sem, q0, q1, q2, q3, q4, q5, q6, q7, q8]) rfl ?_
          rw [HE.out]; exact ⟨T, by rw [HN.out], HO.out, HB.out⟩
        · obtain ⟨r, hr⟩ : ∃ r : Nat, (at_ % 8).toNat = r := ⟨_, rfl⟩
          have hr8 : r < 8 := by omega
          have t1 : at_.tmod 8 = (r : Int) := by rw [Int.tmod_eq_emod_of_nonneg (by omega)]; omega
          have HE : Hid (setN W id at_ = (W.put r (W.sl r ++ [(id, at_)]), 0)) := Lib.hid (by rw [HS2.out, if_neg hm64, hr])
          clear hr HS2
          obtain ⟨i0, hi, hz0, hz1, hz2⟩ := info_parts info34
          have hc := ha4.slot hr8
          have hlen := (hO4.row r hr8).len
          have hn1 : (T r).n ≤ 64 := by have := len_le W hr8; rw [HM.out] at this; omega
          clear hlen
          have HR := Lib.hid (hO4.up (ba1 w4 (.cells #[.int .i64 id, .int .i64 at_] 34)))
          have HSrc : Hid (Src (w4.alloc (.cells #[.int .i64 id, .int .i64 at_] 34)) 2 (some ⟨w4.heap.size, 0, none⟩) 1 1 (tmcs [(id, at_)])) := Lib.hid (by
            have hb := Box.new w4 34 #[.int .i64 id, .int .i64 at_]
            refine .inr ⟨_, rfl, rfl, fun j u hu => ?_⟩
            rw [Addr.add_lit, Nat.zero_add]
            refine hb.c j ?_
            have : (#[Value.int .i64 id, Value.int .i64 at_])[j]? = (tmcs [(id, at_)])[j]? := by rw [← Array.getElem?_toList]; rfl
            rw [this]
            exact hu)
          have hBw : w.heap.size ≤ (w4.alloc (.cells #[.int .i64 id, .int .i64 at_] 34)).heap.size := Nat.le_trans hbel4.size (ba1 w4 _).size
          go_wp2_with (at_builtin; refine wpList_app _ rfl _ _ 22 rfl w.heap.size 34 i0 _ 2 16 (by decide) Try.underlying22 hi hz0 hz1 hz2 rfl _ _ _ rfl (HR.out.row r hr8) (some ⟨w4.heap.size, 0, none⟩) 1 1 (tmcs [(id, at_)]) rfl HSrc.out (tmcs_one _) ?_ ?_ hBw ((T r).n + 1) rfl ?_; (unfold maxLen; omega); omega; intro A' c' w' h1 h2 h3; refine Hid.out ?_)
          have hg : (w4.alloc (.cells #[.int .i64 id, .int .i64 at_] 34)).grownBy w' (Value.slice (T r).A (T r).n (T r).c).ownBlock := h2
          have hk : (Value.slice A' ((T r).n + 1) c').ownBlock = (Value.slice (T r).A (T r).n (T r).c).ownBlock ∨ (Value.slice A' ((T r).n + 1) c').ownBlock = some (w4.alloc (.cells #[.int .i64 id, .int .i64 at_] 34)).heap.size := h3
          have hrow : TRow w' w.heap.size ⟨A', (T r).n + 1, c'⟩ (W.sl r ++ [(id, at_)]) := by
            show w'.ownsRow _ _ _ _ _ _
            rw [tmcs_app]
            exact h1
          clear h1 h2 h3 hc
          have hO5 := HR.out.grown hr8 hrow hg hk
          have ha5 := (ha4.alloc (.cells #[.int .i64 id, .int .i64 at_] 34)).grown (HR.out.row r hr8) hg
          have hres5 := (hres4.alloc (.cells #[.int .i64 id, .int .i64 at_] 34)).grown (HR.out.row r hr8) hg
          have hbel5 : Below w.heap.size w w' := (bon hbel4 (ba1 w4 (.cells #[.int .i64 id, .int .i64 at_] 34))).grown hg hBw (fun k hk => by
            cases hA : (T r).A with
            | none => rw [hA] at hk; cases hk
            | some q =>
              rw [hA] at hk
              have := ((HR.out.row r hr8).blk q hA).1
              have h4 : q.block = k := Option.some.inj hk
              omega)
          have hc := ha5.slot hr8
          have hfz := ha5.f (1 + r)
          have ha6 := ha5.putS hr8 A' ((T r).n + 1) c'
          have hres6 := hres5.far (p := ⟨ga, 1 + r, none⟩) (by simp; omega) (.slice A' ((T r).n + 1) c')
          have hO6 := hO5.farB ha5 (by decide) (1 + r) (.slice A' ((T r).n + 1) c')
          have hbel6 := hbel5.setCell (p := ⟨ga, 1 + r, none⟩) (by simp; omega) (.slice A' ((T r).n + 1) c')
          clear hO5 hres5 hbel5 hO4 ha4 hres4 hbel4 HR HSrc hg hk hrow
          have hnowp : (W.put r (W.sl r ++ [(id, at_)])).now = now := HN.out
          have HNP := Lib.hid hnowp
          clear hnowp
          obtain ⟨U, hU⟩ : ∃ U, putS T r ⟨A', (T r).n + 1, c'⟩ = U := ⟨_, rfl⟩
          rw [hU] at ha6 hO6
          clear hU ha5
          refine Lib.hid ?_
          obtain ⟨c0, c1, c2, c3, c4, c5, c6, c7, c8⟩ := ha6.nine
          obtain ⟨d0, d1, d2, d3, d4, d5, d6, d7, d8⟩ := hres6.nine
          have f0 := hres6.f 0
          have f1 := hres6.f 1
          have f2 := hres6.f 2
          have f3 := hres6.f 3
          have f4 := hres6.f 4
          have f5 := hres6.f 5
          have f6 := hres6.f 6
          have f7 := hres6.f 7
          have f8 := hres6.f 8
          have HO := Lib.hid (hO6.far9 hres6 (by decide) (.int .i64 now) (.slice (U 0).A (U 0).n (U 0).c) (.slice (U 1).A (U 1).n (U 1).c) (.slice (U 2).A (U 2).n (U 2).c) (.slice (U 3).A (U 3).n (U 3).c) (.slice (U 4).A (U 4).n (U 4).c) (.slice (U 5).A (U 5).n (U 5).c) (.slice (U 6).A (U 6).n (U 6).c) (.slice (U 7).A (U 7).n (U 7).c))
          have HB := Lib.hid (below_set9 hbel6 (Nat.le_succ _) (.int .i64 now) (.slice (U 0).A (U 0).n (U 0).c) (.slice (U 1).A (U 1).n (U 1).c) (.slice (U 2).A (U 2).n (U 2).c) (.slice (U 3).A (U 3).n (U 3).c) (.slice (U 4).A (U 4).n (U 4).c) (.slice (U 5).A (U 5).n (U 5).c) (.slice (U 6).A (U 6).n (U 6).c) (.slice (U 7).A (U 7).n (U 7).c))
          have hend : Box _ _ 25 (wcs now U) := hres6.set9 (.int .i64 now) (.slice (U 0).A (U 0).n (U 0).c) (.slice (U 1).A (U 1).n (U 1).c) (.slice (U 2).A (U 2).n (U 2).c) (.slice (U 3).A (U 3).n (U 3).c) (.slice (U 4).A (U 4).n (U 4).c) (.slice (U 5).A (U 5).n (U 5).c) (.slice (U 6).A (U 6).n (U 6).c) (.slice (U 7).A (U 7).n (U 7).c)
          have HEnd := Lib.hid hend.nine
          clear hend
          go_wp2
          obtain ⟨q0, q1, q2, q3, q4, q5, q6, q7, q8⟩ := HEnd.out
          refine bodyPost_ret (v := .tuple #[wv now U, .int .i64 0]) (by simp [results, Try.results15, go_sem, q0, q1, q2, q3, q4, q5, q6, q7, q8]) rfl ?_
          rw [HE.out]; exact ⟨U, by rw [HNP.out], HO.out, HB.out⟩

end Go.Proofs.Ytncbfkoldllbpaa
