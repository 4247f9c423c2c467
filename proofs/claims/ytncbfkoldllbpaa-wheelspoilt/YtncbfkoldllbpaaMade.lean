/-
  The walk of the laws' own 'Made'.
-/
import Derived.Test.YtncbfkoldllbpaaAny
namespace Go.Proofs.Ytncbfkoldllbpaa
open Go.RowKit

theorem set_now (W : Wl) (id at_ : Int) : (setN W id at_).1.now = W.now := by
  unfold setN
  split
  · rfl
  · split
    · rfl
    · split <;> rfl
theorem ok_setN {W : Wl} (h : Ok W) (id at_ : Int) : Ok (setN W id at_).1 := by
  unfold setN
  split
  · exact h
  · next hc =>
    split
    · exact h
    · next hn =>
      split
      · exact h
      · exact ok_put h (by omega) (by omega) (by omega) (has_not.1 (by simpa using hn)) (by omega) rfl
theorem wf_setN {W : Wl} (h : Wf W) {id at_ : Int} (hi : I64 id) (ha : I64 at_) : Wf (setN W id at_).1 := by
  unfold setN
  split
  · exact h
  · split
    · exact h
    · split
      · exact h
      · exact wf_put h hi ha _
theorem cancel_now (W : Wl) (id : Int) : (cancelN W id).1.now = W.now := by
  unfold cancelN
  split
  · rfl
  · split <;> rfl
theorem ok_cancelN {W : Wl} (h : Ok W) (id : Int) : Ok (cancelN W id).1 := by
  unfold cancelN
  split
  · exact h
  · split
    · exact ok_drop h id
    · exact h
theorem wf_cancelN {W : Wl} (h : Wf W) (id : Int) : Wf (cancelN W id).1 := by
  unfold cancelN
  split
  · exact h
  · split
    · exact wf_sub h (fun _ _ => List.filter_sublist) h.now
    · exact h

/-- the slice at address A holds the bytes xs -/
def Us (w : World) (A : Option Addr) (xs : List UInt8) : Prop :=
  0 < xs.length → ∃ b o, A = some ⟨b, o, none⟩ ∧ b < w.heap.size ∧ ∀ j, j < xs.length → w.cell? ⟨b, o + j, none⟩ = some (.int .u8 ((xs[j]?.getD 0).toNat : Int))
theorem Us.two {w : World} {A : Option Addr} {xs : List UInt8} (h : Us w A xs) {k : Nat} (hk : k < xs.length) : ∃ b o, A = some ⟨b, o, none⟩ ∧ b < w.heap.size ∧ ∃ z : Nat, z < 256 ∧ w.cell? ⟨b, o + k, none⟩ = some (.int .u8 (z : Int)) := by
  obtain ⟨b, o, hA, hb, hc⟩ := h (by omega)
  exact ⟨b, o, hA, hb, _, UInt8.toNat_lt _, hc k hk⟩
theorem Us.up {w w' : World} {A : Option Addr} {xs : List UInt8} (h : Us w A xs) (hb : Below w.heap.size w w') : Us w' A xs := by
  intro hx
  obtain ⟨b, o, rfl, hl, hc⟩ := h hx
  exact ⟨b, o, rfl, Nat.lt_of_lt_of_le hl hb.size, fun j hj => (hb.cell hl).trans (hc j hj)⟩

/-- a wheel in its variable, of the call's own -/
structure CutM (B g gr : Nat) (W : Wl) (w wc : World) : Prop where
  ex : ∃ U, Box wc g 25 (wcs W.now U) ∧ Box wc gr 25 (wcs 0 (fun _ => ⟨none, 0, 0⟩)) ∧ Own8 wc B W U ∧ Below B w wc

/-- the variable is given another wheel -/
theorem cutM_mk {B g gr : Nat} {W' : Wl} {w wr w1 : World} {now : Int} {T U : Nat → Sli} {n1 : Int} (hn : W'.now = n1) (hg : Box wr g 25 (wcs now T)) (hr : Box wr gr 25 (wcs 0 (fun _ => ⟨none, 0, 0⟩))) (hb : Below B w wr) (hB : B ≤ wr.heap.size) (hBg : B ≤ g) (hne : gr ≠ g) (h1 : Below wr.heap.size wr w1) (hO : Own8 w1 wr.heap.size W' U) :
    CutM B g gr W' w (((((((((w1.setCell ⟨g, 0, none⟩ (.int .i64 n1)).setCell ⟨g, 1, none⟩ (.slice (U 0).A (U 0).n (U 0).c)).setCell ⟨g, 2, none⟩ (.slice (U 1).A (U 1).n (U 1).c)).setCell ⟨g, 3, none⟩ (.slice (U 2).A (U 2).n (U 2).c)).setCell ⟨g, 4, none⟩ (.slice (U 3).A (U 3).n (U 3).c)).setCell ⟨g, 5, none⟩ (.slice (U 4).A (U 4).n (U 4).c)).setCell ⟨g, 6, none⟩ (.slice (U 5).A (U 5).n (U 5).c)).setCell ⟨g, 7, none⟩ (.slice (U 6).A (U 6).n (U 6).c)).setCell ⟨g, 8, none⟩ (.slice (U 7).A (U 7).n (U 7).c)) := by
  subst hn
  have hg1 := hg.up h1
  exact ⟨U, hg1.set9 (.int .i64 W'.now) (.slice (U 0).A (U 0).n (U 0).c) (.slice (U 1).A (U 1).n (U 1).c) (.slice (U 2).A (U 2).n (U 2).c) (.slice (U 3).A (U 3).n (U 3).c) (.slice (U 4).A (U 4).n (U 4).c) (.slice (U 5).A (U 5).n (U 5).c) (.slice (U 6).A (U 6).n (U 6).c) (.slice (U 7).A (U 7).n (U 7).c), (hr.up h1).far9 hne (.int .i64 W'.now) (.slice (U 0).A (U 0).n (U 0).c) (.slice (U 1).A (U 1).n (U 1).c) (.slice (U 2).A (U 2).n (U 2).c) (.slice (U 3).A (U 3).n (U 3).c) (.slice (U 4).A (U 4).n (U 4).c) (.slice (U 5).A (U 5).n (U 5).c) (.slice (U 6).A (U 6).n (U 6).c) (.slice (U 7).A (U 7).n (U 7).c), (hO.mono hB).far9 hg1 (by decide) (.int .i64 W'.now) (.slice (U 0).A (U 0).n (U 0).c) (.slice (U 1).A (U 1).n (U 1).c) (.slice (U 2).A (U 2).n (U 2).c) (.slice (U 3).A (U 3).n (U 3).c) (.slice (U 4).A (U 4).n (U 4).c) (.slice (U 5).A (U 5).n (U 5).c) (.slice (U 6).A (U 6).n (U 6).c) (.slice (U 7).A (U 7).n (U 7).c), below_set9 (hb.trans (h1.mono hB)) hBg (.int .i64 W'.now) (.slice (U 0).A (U 0).n (U 0).c) (.slice (U 1).A (U 1).n (U 1).c) (.slice (U 2).A (U 2).n (U 2).c) (.slice (U 3).A (U 3).n (U 3).c) (.slice (U 4).A (U 4).n (U 4).c) (.slice (U 5).A (U 5).n (U 5).c) (.slice (U 6).A (U 6).n (U 6).c) (.slice (U 7).A (U 7).n (U 7).c)⟩

/-- what Made hands back -/
def MadeEnds (w : World) (e : Ending) (w' : World) : Prop :=
  ∃ W S, e = .returned (wv W.now S) ∧ Own8 w' w.heap.size W S ∧ Ok W ∧ Wf W ∧ W.now ≤ 60 ∧ Below w.heap.size w w'

set_option maxRecDepth 100000 in
set_option maxHeartbeats 3000000 in
theorem made_any (A : Option Addr) (n c : Nat) (ys : List UInt8) (w : World) (hl : ys.length = n) (hmx : n ≤ maxLen) (hu : Us w A ys) : Calls Try.prog 10 #[.slice A n c] w (MadeEnds w) := by
  have hmx' := hmx
  unfold maxLen at hmx'
  clear hmx
  have HL := Lib.hid hl
  have HU := Lib.hid hu
  clear hl hu
  go_enter Try.func10, Try.ntmps10
  go_wp2_with fail
  go_loopw [4] (fun vi wr => ∃ (i : Nat) (W : Wl), i ≤ 60 ∧ vi = .int .i64 (i : Int) ∧ Hid (Ok W ∧ Wf W) ∧ W.now ≤ i ∧ CutM w.heap.size (w.heap.size + 1) w.heap.size W w wr) (fun vi _ => 60 - (intOf vi).toNat)
  case atStart =>
    refine ⟨0, W0, by omega, rfl, Lib.hid ⟨ok_W0, wf_W0⟩, by decide, SN, Box.mk' _ _ _ _ (by simp), (Box.new w 25 _).alloc _, ⟨fun i _ => World.ownsRow_nil _ _ _ _, fun i j _ _ _ p q hp => by cases hp⟩, ba2 _ _ _⟩
  case round =>
    obtain ⟨i, W, hi60, rfl, HO, hni, U, hg, hr, hO, hb⟩ := hrel
    obtain ⟨now, hn⟩ : ∃ now, W.now = now := ⟨_, rfl⟩
    have HN := Lib.hid hn
    rw [hn] at hg hni
    clear hn
    by_cases hlt : i < n ∧ i < 60
    · obtain ⟨hin, hi6⟩ := hlt
      obtain ⟨b, o, hA, hbl, z, hz, hc⟩ := (HU.out.up (hb.mono (Nat.le_refl _))).two (k := i) (by rw [HL.out]; exact hin)
      subst hA
      obtain ⟨c0, c1, c2, c3, c4, c5, c6, c7, c8⟩ := hg.nine
      have hin' : (i : Int) < (n : Int) := by omega
      have hi0 : (0 : Int) ≤ (i : Int) := by omega
      obtain ⟨r, hr⟩ : ∃ r, z % 4 = r := ⟨_, rfl⟩
      obtain ⟨q, hq⟩ : ∃ q, z / 4 = q := ⟨_, rfl⟩
      obtain ⟨id, hid⟩ : ∃ id, q % 8 = id := ⟨_, rfl⟩
      obtain ⟨m, hm⟩ : ∃ m, z % 21 = m := ⟨_, rfl⟩
      have z1 : (z : Int).tmod 4 = (r : Int) := by rw [Int.tmod_eq_emod_of_nonneg (by omega)]; omega
      have z2 : (z : Int) % 4 = (r : Int) := by omega
      have z3 : (z : Int).tdiv 4 = (q : Int) := by rw [Int.tdiv_eq_ediv_of_nonneg (by omega)]; omega
      have z4 : (z : Int) / 4 = (q : Int) := by omega
      have z5 : (q : Int).tmod 8 = (id : Int) := by rw [Int.tmod_eq_emod_of_nonneg (by omega)]; omega
      have z6 : (q : Int) % 8 = (id : Int) := by omega
      have z7 : (z : Int).tmod 21 = (m : Int) := by rw [Int.tmod_eq_emod_of_nonneg (by omega)]; omega
      have z8 : (z : Int) % 21 = (m : Int) := by omega
      have hr4 : r < 4 := by omega
      have hid8 : id < 8 := by omega
      have hm21 : m < 21 := by omega
      have hqz : q < 64 := by omega
      clear hr hq hid hm
      have x1 : IntKind.i64.wrap (z : Int) = (z : Int) := IntWalk.i64_in _ (by omega)
      have x2 : IntKind.i64.wrap (q : Int) = (q : Int) := IntWalk.i64_in _ (by omega)
      have x3 : IntKind.i64.wrap (id : Int) = (id : Int) := IntWalk.i64_in _ (by omega)
      have x4 : IntKind.i64.wrap (m : Int) = (m : Int) := IntWalk.i64_in _ (by omega)
      have hcase : r = 0 ∨ r = 1 ∨ (r ≠ 0 ∧ r ≠ 1) := by omega
      have hlo : 0 ≤ now := by have := HO.out.1.lo; rw [HN.out] at this; exact this
      have hsz : w.heap.size ≤ wr.heap.size := hb.size
      have hat := hO.at
      have hfew := HO.out.1.few
      rcases hcase with rfl | rfl | ⟨h0, h1⟩
      · have HC := Lib.hid (rtick_any W U wr hat (by omega))
        rw [tick_yes HO.out.1 (by rw [HN.out]; omega), HN.out] at HC
        unfold wv at HC
        have e1 : W.tick.now = now + 1 := by simp [Wl.tick, HN.out]
        have HE1 := Lib.hid e1
        have HOk : Hid (Ok W.tick ∧ Wf W.tick) := Lib.hid ⟨ok_tick HO.out.1 (by rw [HN.out]; omega), wf_sub HO.out.2 (fun i _ => tick_sub W i) (by rw [e1]; exact ⟨by omega, by omega⟩)⟩
        clear hat hfew hO e1
        go_wp2_with fail
        refine HC.out.mono ?_
        rintro e w1 ⟨S1, F1, rfl, hO1, _, hb1⟩
        unfold wv
        rw [HE1.out]
        clear c0 c1 c2 c3 c4 c5 c6 c7 c8
        obtain ⟨c0, c1, c2, c3, c4, c5, c6, c7, c8⟩ := (hg.up hb1).nine
        have f0 := (hg.up hb1).f 0
        have f1 := (hg.up hb1).f 1
        have f2 := (hg.up hb1).f 2
        have f3 := (hg.up hb1).f 3
        have f4 := (hg.up hb1).f 4
        have f5 := (hg.up hb1).f 5
        have f6 := (hg.up hb1).f 6
        have f7 := (hg.up hb1).f 7
        have f8 := (hg.up hb1).f 8
        have HM := Lib.hid (cutM_mk HE1.out hg hr hb hsz (Nat.le_succ _) (by omega) hb1 hO1)
        clear hO1 hb1 HC
        go_wp2
        refine ⟨⟨i + 1, W.tick, by omega, by go_num, HOk, by rw [HE1.out]; omega, HM.out⟩, by simp [intOf]; omega⟩
      · obtain ⟨⟨W', y'⟩, hq'⟩ : ∃ q, cancelN W (id : Int) = q := ⟨_, rfl⟩
        have HE1 : Hid (W'.now = now) := Lib.hid (by have := cancel_now W (id : Int); rw [hq', HN.out] at this; exact this)
        have HOk : Hid (Ok W' ∧ Wf W') := Lib.hid (by have h1 := ok_cancelN HO.out.1 (id : Int); have h2 := wf_cancelN HO.out.2 (id : Int); rw [hq'] at h1 h2; exact ⟨h1, h2⟩)
        have HC : Hid (∀ X, Below wr.heap.size wr X → Calls Try.prog 16 #[wv W.now U, .int .i64 (id : Int)] X (WhEnds (W', y') X)) := Lib.hid (fun X hX => hq' ▸ rcancel_any W U (id : Int) X (hat.up hX) (by omega))
        rw [HN.out] at HC
        unfold wv at HC
        clear hat hfew hO hq'
        go_wp2_with fail
        go_region_law (first | (go_simp; go_at_call 16; refine (HC.out _ ?_).mono ?_; exact (Below.refl wr.heap.size wr).drew; rintro e wP ⟨S1, rfl, hO1, hbP⟩; unfold wv; rw [HE1.out]; have hb1 : Below wr.heap.size wr wP := bon (Below.refl wr.heap.size wr).drew hbP; obtain ⟨d0, d1, d2, d3, d4, d5, d6, d7, d8⟩ := (hg.up hb1).nine; have f0 := (hg.up hb1).f 0; have f1 := (hg.up hb1).f 1; have f2 := (hg.up hb1).f 2; have f3 := (hg.up hb1).f 3; have f4 := (hg.up hb1).f 4; have f5 := (hg.up hb1).f 5; have f6 := (hg.up hb1).f 6; have f7 := (hg.up hb1).f 7; have f8 := (hg.up hb1).f 8))
        all_goals
          have HM := Lib.hid (cutM_mk HE1.out hg hr hb hsz (Nat.le_succ _) (by omega) hb1 hO1)
          clear hO1 hb1 hbP
          go_wp2
          refine ⟨⟨i + 1, W', by omega, by go_num, HOk, by rw [HE1.out]; omega, HM.out⟩, by simp [intOf]; omega⟩
      · obtain ⟨⟨W', y'⟩, hq'⟩ : ∃ q, setN W (id : Int) (now + m) = q := ⟨_, rfl⟩
        have HE1 : Hid (W'.now = now) := Lib.hid (by have := set_now W (id : Int) (now + m); rw [hq', HN.out] at this; exact this)
        have HOk : Hid (Ok W' ∧ Wf W') := Lib.hid (by have h1 := ok_setN HO.out.1 (id : Int) (now + m); have h2 := wf_setN HO.out.2 (id := (id : Int)) (at_ := now + m) ⟨by omega, by omega⟩ ⟨by omega, by omega⟩; rw [hq'] at h1 h2; exact ⟨h1, h2⟩)
        have HC : Hid (∀ X, Below wr.heap.size wr X → Calls Try.prog 15 #[wv W.now U, .int .i64 (id : Int), .int .i64 (now + m)] X (WhEnds (W', y') X)) := Lib.hid (fun X hX => hq' ▸ rset_any W U (id : Int) (now + m) X (hat.up hX) (by omega))
        rw [HN.out] at HC
        unfold wv at HC
        have y1 : IntKind.i64.wrap (now + (m : Int)) = now + (m : Int) := IntWalk.i64_in _ (by omega)
        clear hat hfew hO hq'
        go_wp2_with fail
        go_region_law (first | (go_simp; go_at_call 15; refine (HC.out _ ?_).mono ?_; exact (Below.refl wr.heap.size wr).drew; rintro e wP ⟨S1, rfl, hO1, hbP⟩; unfold wv; rw [HE1.out]; have hb1 : Below wr.heap.size wr wP := bon (Below.refl wr.heap.size wr).drew hbP; obtain ⟨d0, d1, d2, d3, d4, d5, d6, d7, d8⟩ := (hg.up hb1).nine; have f0 := (hg.up hb1).f 0; have f1 := (hg.up hb1).f 1; have f2 := (hg.up hb1).f 2; have f3 := (hg.up hb1).f 3; have f4 := (hg.up hb1).f 4; have f5 := (hg.up hb1).f 5; have f6 := (hg.up hb1).f 6; have f7 := (hg.up hb1).f 7; have f8 := (hg.up hb1).f 8))
        all_goals
          have HM := Lib.hid (cutM_mk HE1.out hg hr hb hsz (Nat.le_succ _) (by omega) hb1 hO1)
          clear hO1 hb1 hbP
          go_wp2
          refine ⟨⟨i + 1, W', by omega, by go_num, HOk, by rw [HE1.out]; omega, HM.out⟩, by simp [intOf]; omega⟩
    · have hend : ¬ i < n ∨ (i < n ∧ ¬ i < 60) := by omega
      obtain ⟨c0, c1, c2, c3, c4, c5, c6, c7, c8⟩ := hg.nine
      have hnow60 : W.now ≤ 60 := by rw [HN.out]; omega
      have HN60 := Lib.hid hnow60
      clear hnow60
      rcases hend with hend | ⟨hend, hend'⟩
      all_goals
        obtain ⟨c0, c1, c2, c3, c4, c5, c6, c7, c8⟩ := hg.nine
        obtain ⟨d0, d1, d2, d3, d4, d5, d6, d7, d8⟩ := hr.nine
        have f0 := hr.f 0
        have f1 := hr.f 1
        have f2 := hr.f 2
        have f3 := hr.f 3
        have f4 := hr.f 4
        have f5 := hr.f 5
        have f6 := hr.f 6
        have f7 := hr.f 7
        have f8 := hr.f 8
        have HO' := HO
        have HO := Lib.hid (hO.far9 hr (by decide) (.int .i64 now) (.slice (U 0).A (U 0).n (U 0).c) (.slice (U 1).A (U 1).n (U 1).c) (.slice (U 2).A (U 2).n (U 2).c) (.slice (U 3).A (U 3).n (U 3).c) (.slice (U 4).A (U 4).n (U 4).c) (.slice (U 5).A (U 5).n (U 5).c) (.slice (U 6).A (U 6).n (U 6).c) (.slice (U 7).A (U 7).n (U 7).c))
        have HB := Lib.hid (below_set9 hb (Nat.le_refl _) (.int .i64 now) (.slice (U 0).A (U 0).n (U 0).c) (.slice (U 1).A (U 1).n (U 1).c) (.slice (U 2).A (U 2).n (U 2).c) (.slice (U 3).A (U 3).n (U 3).c) (.slice (U 4).A (U 4).n (U 4).c) (.slice (U 5).A (U 5).n (U 5).c) (.slice (U 6).A (U 6).n (U 6).c) (.slice (U 7).A (U 7).n (U 7).c))
        have hend : Box _ _ 25 (wcs now U) := hr.set9 (.int .i64 now) (.slice (U 0).A (U 0).n (U 0).c) (.slice (U 1).A (U 1).n (U 1).c) (.slice (U 2).A (U 2).n (U 2).c) (.slice (U 3).A (U 3).n (U 3).c) (.slice (U 4).A (U 4).n (U 4).c) (.slice (U 5).A (U 5).n (U 5).c) (.slice (U 6).A (U 6).n (U 6).c) (.slice (U 7).A (U 7).n (U 7).c)
        have HEnd := Lib.hid hend.nine
        clear hend
        go_wp2
        obtain ⟨q0, q1, q2, q3, q4, q5, q6, q7, q8⟩ := HEnd.out
        refine bodyPost_ret (v := wv now U) (by simp [results, Try.results10, go_sem, q0, q1, q2, q3, q4, q5, q6, q7, q8]) rfl ?_
        exact ⟨W, U, by rw [HN.out], HO.out, HO'.out.1, HO'.out.2, HN60.out, HB.out⟩

end Go.Proofs.Ytncbfkoldllbpaa
