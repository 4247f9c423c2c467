/-
  The walks of the program's own idsOf, Cancel and Tick.
-/
import Derived.Test.YtncbfkoldllbpaaPe
import Derived.Test.YtncbfkoldllbpaaPg
namespace Go.Proofs.Ytncbfkoldllbpaa
open Go.RowKit

set_option maxRecDepth 100000 in
set_option maxHeartbeats 1000000 in
theorem idsOf_any {f gc : Nat} {v : Int} {p : Tm → Bool} (hT : Tells f gc v p) (s : Sli) (xs : List Tm) (w : World) (hl : xs.length = s.n) (hts : Ts w s.A xs) (hn : s.n ≤ 1000) (hb : Box w gc 3 #[.int .i64 v]) :
    Calls Try.prog 23 #[.slice s.A s.n s.c, .func (.func f) #[] #[.pointer (some ⟨gc, 0, none⟩)]] w fun e w' => ∃ F : Sli, e = .returned (.slice F.A F.n F.c) ∧ DisR w w' F ((xs.filter p).map Prod.fst) := by
  obtain ⟨A, n, c⟩ := s
  simp only at hl hts hn ⊢
  have HL := Lib.hid hl
  have HTs := Lib.hid hts
  have HB := Lib.hid hb
  have HT := Lib.hid hT.run
  have eg := hT.en
  obtain ⟨i3, hi3, hz30, hz31, hz32⟩ := info_parts info3
  clear hl hts hb hT
  go_enter Try.func23, Try.ntmps23
  go_wp2_with fail
  go_loopw [5, 7, 10] (fun v5 v7 vk wr => ∃ (k : Nat) (F : Sli), k ≤ n ∧ vk = .int .i64 (k : Int) ∧ v5 = .slice F.A F.n F.c ∧ F.n ≤ k ∧ DisR w wr F (((xs.take k).filter p).map Prod.fst)) (fun _ _ vk _ => n - (intOf vk).toNat)
  case atStart => exact ⟨0, ⟨none, 0, 0⟩, Nat.zero_le _, rfl, rfl, Nat.le_refl _, World.ownsRow_nil _ _ _ _, Below.refl _ _⟩
  case round =>
    obtain ⟨k, F, hk, rfl, rfl, hFk, hR⟩ := hrel
    by_cases hkn : k < n
    · obtain ⟨⟨x, y⟩, ht⟩ : ∃ t : Tm, xs[k]? = some t := ⟨_, List.getElem?_eq_getElem (by rw [HL.out]; exact hkn)⟩
      obtain ⟨b, o, hA, hb, hx, hy⟩ := (HTs.out.up hR.hb).two ht
      have hx : wr.cell? ⟨b, o + k * 2, none⟩ = some (.int .i64 x) := hx
      have hy : wr.cell? ⟨b, o + k * 2 + 1, none⟩ = some (.int .i64 y) := hy
      have HTk : Hid (xs.take (k + 1) = xs.take k ++ [(x, y)]) := Lib.hid (by rw [List.take_add_one, ht]; rfl)
      subst hA
      clear ht
      have hRa := hR.up (ba1 wr (.cells #[.int .i64 x, .int .i64 y] 34))
      have htb := Box.new wr 34 #[.int .i64 x, .int .i64 y]
      have d0 := htb.c 0 (v := .int .i64 x) rfl
      have d1 := htb.c 1 (v := .int .i64 y) rfl
      go_wp2_with fail
      refine (HT.out _ x y (HB.out.up hRa.hb)).mono ?_
      rintro e w2 ⟨rfl, hb2⟩
      have hR2 := hRa.up hb2
      have htb2 := htb.up hb2
      clear hR hRa htb hx hy hb2 d0 d1 hb
      cases hp : p (x, y) with
      | true =>
        have HS : Hid (((xs.take (k + 1)).filter p).map Prod.fst = ((xs.take k).filter p).map Prod.fst ++ [x]) := Lib.hid (by rw [HTk.out]; simp [hp])
        obtain ⟨fs, hfs⟩ : ∃ fs, ((xs.take k).filter p).map Prod.fst = fs := ⟨_, rfl⟩
        rw [hfs] at HS hR2
        clear hfs
        have HR2 := Lib.hid (hR2.up (ba1 w2 (.cells #[.int .i64 x] 3)))
        have HSrc := Lib.hid (src_one w2 x)
        have hBw := HR2.out.hb.size
        have d0 := htb2.c 0 (v := .int .i64 x) rfl
        clear hR2 htb2
        go_wp2_with (at_builtin; refine wpList_app _ rfl _ _ 37 rfl w.heap.size 3 i3 _ 1 8 (by decide) Try.underlying37 hi3 hz30 hz31 hz32 rfl (.slice F.A F.n F.c) F.n (fs.map (Value.int .i64)) rfl HR2.out.f (some ⟨w2.heap.size, 0, none⟩) 1 1 ([x].map (Value.int .i64)) rfl HSrc.out (one_iv _) ?_ ?_ hBw (F.n + 1) rfl ?_; (unfold maxLen; omega); omega; intro A' c' w' h1 h2 h3; refine Hid.out ?_)
        have HR3 := Lib.hid (HR2.out.app (F' := ⟨A', F.n + 1, c'⟩) (x := x) (by show w'.ownsRow _ _ _ _ _ _; rw [List.map_append]; exact h1) h2)
        clear h1 h2 h3 HR2 HSrc d0
        refine Lib.hid ?_
        go_wp2
        refine ⟨⟨k + 1, ⟨A', F.n + 1, c'⟩, by omega, by go_num, rfl, by simp only; omega, by rw [HS.out]; exact HR3.out⟩, by simp [intOf]; omega⟩
      | false =>
        have HS : Hid (((xs.take (k + 1)).filter p).map Prod.fst = ((xs.take k).filter p).map Prod.fst) := Lib.hid (by rw [HTk.out]; simp [hp])
        clear htb2
        go_wp2
        refine ⟨⟨k + 1, F, by omega, by go_num, rfl, by omega, by rw [HS.out]; exact hR2⟩, by simp [intOf]; omega⟩
    · have : k = n := by omega
      subst this
      have HE : Hid (xs.take k = xs) := Lib.hid (by rw [← HL.out, List.take_length])
      go_wp2
      go_ret
      exact ⟨F, rfl, by rw [HE.out] at hR; exact hR⟩

/-- a slot's row was bent in place, or laid anew -/
theorem Own8.bent {w w' : World} {B : Nat} {W : Wl} {T : Nat → Sli} (h : Own8 w B W T) {r : Nat} (hr : r < 8) {s : Sli} {xs : List Tm} (h1 : TRow w' B s xs) (hA : s.A = (T r).A) (hg : w.grownBy w' (Value.slice (T r).A (T r).n (T r).c).ownBlock) : Own8 w' B (W.put r xs) (putS T r s) := by
  refine h.grown hr h1 hg (.inl ?_)
  rw [hA]
  cases hq : (T r).A <;> rfl
theorem Box.other {w w' : World} {p B : Nat} {t : TypeId} {cs : Array Value} {s : Sli} {xs : List Tm} (h : Box w p t cs) (ht : t ≠ 34) (hr : TRow w B s xs) (hg : w.grownBy w' (Value.slice s.A s.n s.c).ownBlock) : Box w' p t cs := (grown_other hr hg h ht).trans h
theorem IRow.other {w w' : World} {B B' : Nat} {F s : Sli} {fs : List Int} {xs : List Tm} (h : IRow w B F fs) (hr : TRow w B' s xs) (hg : w.grownBy w' (Value.slice s.A s.n s.c).ownBlock) : IRow w' B F fs := h.keep fun _ _ hj => grown_other hr hg hj (by decide)
theorem Mine.bent {B gb gr : Nat} {now : Int} {W : Wl} {T : Nat → Sli} {w wr w' : World} (h : Mine B gb gr now W T w wr) {r : Nat} (hr : r < 8) {s : Sli} {xs : List Tm} (h1 : TRow w' B s xs) (hA : s.A = (T r).A) (hg : wr.grownBy w' (Value.slice (T r).A (T r).n (T r).c).ownBlock) (hgb : B ≤ gb) (hne : gr ≠ gb) :
    Mine B gb gr now (W.put r xs) (putS T r s) w (w'.setCell ⟨gb, 1 + r, none⟩ (.slice s.A s.n s.c)) := by
  have ha := h.ha.other (by decide) (h.ho.row r hr) hg
  have hb := grown_base (h.ho.row r hr) hg h.hb (Nat.le_refl _) h.le
  exact ⟨ha.putS hr s.A s.n s.c, (h.hr.other (by decide) (h.ho.row r hr) hg).far (p := ⟨gb, 1 + r, none⟩) hne _, (h.ho.bent hr h1 hA hg).farB ha (by decide) _ _, hb.setCell (p := ⟨gb, 1 + r, none⟩) hgb _, Nat.le_trans h.le (Nat.le_trans hg.size (by simp [World.setCell]))⟩
theorem Mine.same {B gb gr : Nat} {now : Int} {W W' : Wl} {T : Nat → Sli} {w wr : World} (h : Mine B gb gr now W T w wr) (he : ∀ j, j < 8 → W'.sl j = W.sl j) : Mine B gb gr now W' T w wr := ⟨h.ha, h.hr, h.ho.same he, h.hb, h.le⟩

/-- only the slot of the id loses a timer -/
theorem drop_filter {W : Wl} (ho : Ok W) {id : Int} {i k : Nat} (hp : Place W id i k) : ∀ j, j < 8 → (W.drop id).sl j = (W.put i ((W.sl i).filter (fun t => !(t.1 == id)))).sl j := by
  intro j hj
  by_cases hji : j = i
  · subst hji
    simp only [Wl.drop, Wl.put, if_true]
    rfl
  · have := drop_put ho hp j hj
    simp only [Wl.put, if_neg hji] at this ⊢
    exact this

set_option maxRecDepth 100000 in
set_option maxHeartbeats 1000000 in
theorem pcancel_any (W : Wl) (S : Nat → Sli) (id : Int) (w : World) (h : At w W S) (hf : manyN W ≤ 1000) : Calls Try.prog 12 #[wv W.now S, .int .i64 id] w (WhEnds (cancelN W id) w) := by
  have HOw := Lib.hid (fun W1 (hb : Below w.heap.size w W1) => pown_any W S W1 (h.up hb) (by omega))
  have HRt := Lib.hid (fun (T : Nat → Sli) W1 (hb : At W1 W T) => right_any W T W1 hb hf)
  have HSl := Lib.hid (fun (T : Nat → Sli) W1 (hb : At W1 W T) => slotOf_any W T id W1 hb)
  clear h
  obtain ⟨now, hn⟩ : ∃ now, W.now = now := ⟨_, rfl⟩
  have HN := Lib.hid hn
  rw [hn] at HOw HRt HSl ⊢
  clear hn
  unfold wv at HOw HRt HSl ⊢
  go_enter Try.func12, Try.ntmps12
  go_wp2_with fail
  refine (HOw.out _ (ba3 _ _ _ _)).mono ?_
  rintro e w1 ⟨T, rfl, hO, hb1⟩
  rw [HN.out]
  have hbox := (((Box.new w 25 (wcs now S)).alloc (.cells #[.int .i64 id] 3)).alloc (.cells (wcs 0 (fun _ => ⟨none, 0, 0⟩)) 25)).up hb1
  have hidb := ((Box.mk' (w.alloc (.cells (wcs now S) 25)) 3 #[.int .i64 id] (w.heap.size + 1) (by simp)).alloc (.cells (wcs 0 (fun _ => ⟨none, 0, 0⟩)) 25)).up hb1
  have hres := (Box.mk' ((w.alloc (.cells (wcs now S) 25)).alloc (.cells #[.int .i64 id] 3)) 25 (wcs 0 (fun _ => ⟨none, 0, 0⟩)) (w.heap.size + 2) (by simp)).up hb1
  have hbel := bon (ba3 w _ _ _) hb1
  have hO := hO.mono (B' := w.heap.size) (by simp; omega)
  clear hb1
  unfold wv
  have hM := mine_new hbox hres hO hbel (Nat.le_refl _) (by omega)
  have hI := hidb.far9 (g := w.heap.size) (by omega) (.int .i64 now) (.slice (T 0).A (T 0).n (T 0).c) (.slice (T 1).A (T 1).n (T 1).c) (.slice (T 2).A (T 2).n (T 2).c) (.slice (T 3).A (T 3).n (T 3).c) (.slice (T 4).A (T 4).n (T 4).c) (.slice (T 5).A (T 5).n (T 5).c) (.slice (T 6).A (T 6).n (T 6).c) (.slice (T 7).A (T 7).n (T 7).c)
  obtain ⟨c0, c1, c2, c3, c4, c5, c6, c7, c8⟩ := hbox.nine
  have f0 := hbox.f 0
  have f1 := hbox.f 1
  have f2 := hbox.f 2
  have f3 := hbox.f 3
  have f4 := hbox.f 4
  have f5 := hbox.f 5
  have f6 := hbox.f 6
  have f7 := hbox.f 7
  have f8 := hbox.f 8
  go_upto_region 2 with fail
  obtain ⟨w2, hw2⟩ : ∃ X, (((((((((w1.setCell ⟨w.heap.size, 0, none⟩ (.int .i64 now)).setCell ⟨w.heap.size, 1, none⟩ (.slice (T 0).A (T 0).n (T 0).c)).setCell ⟨w.heap.size, 2, none⟩ (.slice (T 1).A (T 1).n (T 1).c)).setCell ⟨w.heap.size, 3, none⟩ (.slice (T 2).A (T 2).n (T 2).c)).setCell ⟨w.heap.size, 4, none⟩ (.slice (T 3).A (T 3).n (T 3).c)).setCell ⟨w.heap.size, 5, none⟩ (.slice (T 4).A (T 4).n (T 4).c)).setCell ⟨w.heap.size, 6, none⟩ (.slice (T 5).A (T 5).n (T 5).c)).setCell ⟨w.heap.size, 7, none⟩ (.slice (T 6).A (T 6).n (T 6).c)).setCell ⟨w.heap.size, 8, none⟩ (.slice (T 7).A (T 7).n (T 7).c)) = X := ⟨_, rfl⟩
  rw [hw2] at hM hI ⊢
  clear c0 c1 c2 c3 c4 c5 c6 c7 c8 f0 f1 f2 f3 f4 f5 f6 f7 f8 hbox hres hO hbel hw2 hidb
  obtain ⟨c0, c1, c2, c3, c4, c5, c6, c7, c8⟩ := hM.ha.nine
  go_wp2_with fail
  refine (HRt.out T _ hM.ho.at).mono ?_
  rintro e w3 ⟨rfl, hb3⟩
  have hM3 := hM.up hb3
  have hI3 := hI.up hb3
  clear c0 c1 c2 c3 c4 c5 c6 c7 c8 hM hb3 hI
  cases hok : okB W with
  | false =>
    have HE : Hid (cancelN W id = (W, 1)) := Lib.hid (by rw [cancelN, if_pos hok])
    clear hok
    obtain ⟨c0, c1, c2, c3, c4, c5, c6, c7, c8⟩ := hM3.ha.nine
    obtain ⟨d0, d1, d2, d3, d4, d5, d6, d7, d8⟩ := hM3.hr.nine
    have f0 := hM3.hr.f 0
    have f1 := hM3.hr.f 1
    have f2 := hM3.hr.f 2
    have f3 := hM3.hr.f 3
    have f4 := hM3.hr.f 4
    have f5 := hM3.hr.f 5
    have f6 := hM3.hr.f 6
    have f7 := hM3.hr.f 7
    have f8 := hM3.hr.f 8
    have HO := Lib.hid (hM3.ho.far9 hM3.hr (by decide) (.int .i64 now) (.slice (T 0).A (T 0).n (T 0).c) (.slice (T 1).A (T 1).n (T 1).c) (.slice (T 2).A (T 2).n (T 2).c) (.slice (T 3).A (T 3).n (T 3).c) (.slice (T 4).A (T 4).n (T 4).c) (.slice (T 5).A (T 5).n (T 5).c) (.slice (T 6).A (T 6).n (T 6).c) (.slice (T 7).A (T 7).n (T 7).c))
    have HB := Lib.hid (below_set9 hM3.hb (show w.heap.size ≤ w.heap.size + 2 by omega) (.int .i64 now) (.slice (T 0).A (T 0).n (T 0).c) (.slice (T 1).A (T 1).n (T 1).c) (.slice (T 2).A (T 2).n (T 2).c) (.slice (T 3).A (T 3).n (T 3).c) (.slice (T 4).A (T 4).n (T 4).c) (.slice (T 5).A (T 5).n (T 5).c) (.slice (T 6).A (T 6).n (T 6).c) (.slice (T 7).A (T 7).n (T 7).c))
    have hend : Box _ _ 25 (wcs now T) := hM3.hr.set9 (.int .i64 now) (.slice (T 0).A (T 0).n (T 0).c) (.slice (T 1).A (T 1).n (T 1).c) (.slice (T 2).A (T 2).n (T 2).c) (.slice (T 3).A (T 3).n (T 3).c) (.slice (T 4).A (T 4).n (T 4).c) (.slice (T 5).A (T 5).n (T 5).c) (.slice (T 6).A (T 6).n (T 6).c) (.slice (T 7).A (T 7).n (T 7).c)
    have HEnd := Lib.hid hend.nine
    clear hend
    go_wp2
    obtain ⟨q0, q1, q2, q3, q4, q5, q6, q7, q8⟩ := HEnd.out
    refine bodyPost_ret (v := .tuple #[wv now T, .int .i64 1]) (by simp [results, Try.results12, go_sem, q0, q1, q2, q3, q4, q5, q6, q7, q8]) rfl ?_
    rw [HE.out]; exact ⟨T, by rw [HN.out], HO.out, HB.out⟩
  | true =>
    have HOk := Lib.hid (ok_iff.1 hok)
    have HS1 : Hid (cancelN W id = if hasB W id then (W.drop id, 0) else (W, 5)) := Lib.hid (by rw [cancelN, if_neg (by rw [hok]; simp)])
    clear hok
    obtain ⟨c0, c1, c2, c3, c4, c5, c6, c7, c8⟩ := hM3.ha.nine
    have ci := hI3.one.1
    go_wp2_with fail
    refine (HSl.out T _ hM3.ho.at).mono ?_
    rintro e w4 ⟨rfl, hb4⟩
    have hM4 := hM3.up hb4
    have hI4 := hI3.up hb4
    clear c0 c1 c2 c3 c4 c5 c6 c7 c8 hM3 hb4 hI3 ci
    rcases find_cases W id with ⟨i, k, hp, he⟩ | ⟨hnh, he⟩
    · have HE : Hid (cancelN W id = (W.drop id, 0)) := Lib.hid (by rw [HS1.out, if_pos (has_iff.2 ⟨i, k, hp⟩)])
      rw [he]
      have hi8 : i < 8 := hp.1
      have HD := Lib.hid (drop_filter HOk.out hp)
      have HDel := Lib.hid (deleteFunc_any (tells_id (w.heap.size + 1) id) (T i) (W.sl i) w4 (hM4.ho.row i hi8) (by
        have h1 := (hM4.ho.row i hi8).len
        have h2 := len_le W hi8
        omega) hI4)
      have hc := hM4.ha.slot hi8
      have hiI : (i : Int) < 8 := by omega
      have hi0 : ¬ (i : Int) < 0 := by omega
      clear hp he HS1
      simp only
      go_wp2_with fail
      refine HDel.out.mono ?_
      rintro e w5 ⟨s, rfl, hsA, hrow, hg⟩
      have ha5 := hM4.ha.other (by decide) (hM4.ho.row i hi8) hg
      have hM5 := (hM4.bent hi8 hrow hsA hg (Nat.le_refl _) (by omega)).same HD.out
      have hnd : (W.drop id).now = now := HN.out
      have HND := Lib.hid hnd
      obtain ⟨A', n', c'⟩ := s
      simp only at hM5 ⊢
      clear hnd hc HDel hrow hg hsA hM4 hI4 HD
      have hc := ha5.slot hi8
      have hfz := ha5.f (1 + i)
      obtain ⟨U, hU⟩ : ∃ U, putS T i ⟨A', n', c'⟩ = U := ⟨_, rfl⟩
      rw [hU] at hM5
      clear hU ha5
      obtain ⟨c0, c1, c2, c3, c4, c5, c6, c7, c8⟩ := hM5.ha.nine
      obtain ⟨d0, d1, d2, d3, d4, d5, d6, d7, d8⟩ := hM5.hr.nine
      have f0 := hM5.hr.f 0
      have f1 := hM5.hr.f 1
      have f2 := hM5.hr.f 2
      have f3 := hM5.hr.f 3
      have f4 := hM5.hr.f 4
      have f5 := hM5.hr.f 5
      have f6 := hM5.hr.f 6
      have f7 := hM5.hr.f 7
      have f8 := hM5.hr.f 8
      have HO := Lib.hid (hM5.ho.far9 hM5.hr (by decide) (.int .i64 now) (.slice (U 0).A (U 0).n (U 0).c) (.slice (U 1).A (U 1).n (U 1).c) (.slice (U 2).A (U 2).n (U 2).c) (.slice (U 3).A (U 3).n (U 3).c) (.slice (U 4).A (U 4).n (U 4).c) (.slice (U 5).A (U 5).n (U 5).c) (.slice (U 6).A (U 6).n (U 6).c) (.slice (U 7).A (U 7).n (U 7).c))
      have HB := Lib.hid (below_set9 hM5.hb (show w.heap.size ≤ w.heap.size + 2 by omega) (.int .i64 now) (.slice (U 0).A (U 0).n (U 0).c) (.slice (U 1).A (U 1).n (U 1).c) (.slice (U 2).A (U 2).n (U 2).c) (.slice (U 3).A (U 3).n (U 3).c) (.slice (U 4).A (U 4).n (U 4).c) (.slice (U 5).A (U 5).n (U 5).c) (.slice (U 6).A (U 6).n (U 6).c) (.slice (U 7).A (U 7).n (U 7).c))
      have hend : Box _ _ 25 (wcs now U) := hM5.hr.set9 (.int .i64 now) (.slice (U 0).A (U 0).n (U 0).c) (.slice (U 1).A (U 1).n (U 1).c) (.slice (U 2).A (U 2).n (U 2).c) (.slice (U 3).A (U 3).n (U 3).c) (.slice (U 4).A (U 4).n (U 4).c) (.slice (U 5).A (U 5).n (U 5).c) (.slice (U 6).A (U 6).n (U 6).c) (.slice (U 7).A (U 7).n (U 7).c)
      have HEnd := Lib.hid hend.nine
      clear hend
      go_wp2
      obtain ⟨q0, q1, q2, q3, q4, q5, q6, q7, q8⟩ := HEnd.out
      refine bodyPost_ret (v := .tuple #[wv now U, .int .i64 0]) (by simp [results, Try.results12, go_sem, q0, q1, q2, q3, q4, q5, q6, q7, q8]) rfl ?_
      rw [HE.out]; exact ⟨U, by rw [HND.out], HO.out, HB.out⟩
    · have HE : Hid (cancelN W id = (W, 5)) := Lib.hid (by rw [HS1.out, if_neg (by rw [has_not.2 hnh]; simp)])
      rw [he]
      clear hnh he HS1
      simp only
      obtain ⟨c0, c1, c2, c3, c4, c5, c6, c7, c8⟩ := hM4.ha.nine
      obtain ⟨d0, d1, d2, d3, d4, d5, d6, d7, d8⟩ := hM4.hr.nine
      have f0 := hM4.hr.f 0
      have f1 := hM4.hr.f 1
      have f2 := hM4.hr.f 2
      have f3 := hM4.hr.f 3
      have f4 := hM4.hr.f 4
      have f5 := hM4.hr.f 5
      have f6 := hM4.hr.f 6
      have f7 := hM4.hr.f 7
      have f8 := hM4.hr.f 8
      have HO := Lib.hid (hM4.ho.far9 hM4.hr (by decide) (.int .i64 now) (.slice (T 0).A (T 0).n (T 0).c) (.slice (T 1).A (T 1).n (T 1).c) (.slice (T 2).A (T 2).n (T 2).c) (.slice (T 3).A (T 3).n (T 3).c) (.slice (T 4).A (T 4).n (T 4).c) (.slice (T 5).A (T 5).n (T 5).c) (.slice (T 6).A (T 6).n (T 6).c) (.slice (T 7).A (T 7).n (T 7).c))
      have HB := Lib.hid (below_set9 hM4.hb (show w.heap.size ≤ w.heap.size + 2 by omega) (.int .i64 now) (.slice (T 0).A (T 0).n (T 0).c) (.slice (T 1).A (T 1).n (T 1).c) (.slice (T 2).A (T 2).n (T 2).c) (.slice (T 3).A (T 3).n (T 3).c) (.slice (T 4).A (T 4).n (T 4).c) (.slice (T 5).A (T 5).n (T 5).c) (.slice (T 6).A (T 6).n (T 6).c) (.slice (T 7).A (T 7).n (T 7).c))
      have hend : Box _ _ 25 (wcs now T) := hM4.hr.set9 (.int .i64 now) (.slice (T 0).A (T 0).n (T 0).c) (.slice (T 1).A (T 1).n (T 1).c) (.slice (T 2).A (T 2).n (T 2).c) (.slice (T 3).A (T 3).n (T 3).c) (.slice (T 4).A (T 4).n (T 4).c) (.slice (T 5).A (T 5).n (T 5).c) (.slice (T 6).A (T 6).n (T 6).c) (.slice (T 7).A (T 7).n (T 7).c)
      have HEnd := Lib.hid hend.nine
      clear hend
      go_wp2
      obtain ⟨q0, q1, q2, q3, q4, q5, q6, q7, q8⟩ := HEnd.out
      refine bodyPost_ret (v := .tuple #[wv now T, .int .i64 5]) (by simp [results, Try.results12, go_sem, q0, q1, q2, q3, q4, q5, q6, q7, q8]) rfl ?_
      rw [HE.out]; exact ⟨T, by rw [HN.out], HO.out, HB.out⟩

/-- a wheel of its own, numbers of its own and an error are handed back -/
def TkOwn (q : Wl × List Int × Int) (w : World) (e : Ending) (w' : World) : Prop :=
  ∃ S F, e = .returned (.tuple #[wv q.1.now S, .slice F.A F.n F.c, .int .i64 q.2.2]) ∧ Own8 w' w.heap.size q.1 S ∧ IRow w' w.heap.size F q.2.1 ∧ Below w.heap.size w w'

theorem Mine.now {B gb gr : Nat} {now : Int} {W : Wl} {T : Nat → Sli} {w wr : World} (h : Mine B gb gr now W T w wr) (hgb : B ≤ gb) (hne : gr ≠ gb) (n1 : Int) : Mine B gb gr n1 W T w (wr.setCell ⟨gb, 0, none⟩ (.int .i64 n1)) :=
  ⟨by simpa using h.ha.set 0 (.int .i64 n1), h.hr.far (p := ⟨gb, 0, none⟩) hne _, h.ho.farB h.ha (by decide) _ _, h.hb.setCell (p := ⟨gb, 0, none⟩) hgb _, by simpa [World.setCell] using h.le⟩

set_option maxRecDepth 100000 in
set_option maxHeartbeats 1000000 in
theorem ptick_any (W : Wl) (S : Nat → Sli) (w : World) (h : At w W S) (hf : manyN W ≤ 1000) : Calls Try.prog 11 #[wv W.now S] w (TkOwn (tickN W) w) := by
  have HOw := Lib.hid (fun W1 (hb : Below w.heap.size w W1) => pown_any W S W1 (h.up hb) (by omega))
  have HRt := Lib.hid (fun (T : Nat → Sli) W1 (hb : At W1 W T) => right_any W T W1 hb hf)
  clear h
  obtain ⟨now, hn⟩ : ∃ now, W.now = now := ⟨_, rfl⟩
  have HN := Lib.hid hn
  rw [hn] at HOw HRt ⊢
  clear hn
  unfold wv at HOw HRt ⊢
  go_enter Try.func11, Try.ntmps11
  go_wp2_with fail
  refine (HOw.out _ (ba2 _ _ _)).mono ?_
  rintro e w1 ⟨T, rfl, hO, hb1⟩
  rw [HN.out]
  have hbox := ((Box.new w 25 (wcs now S)).alloc (.cells (wcs 0 (fun _ => ⟨none, 0, 0⟩)) 25)).up hb1
  have hres := (Box.mk' (w.alloc (.cells (wcs now S) 25)) 25 (wcs 0 (fun _ => ⟨none, 0, 0⟩)) (w.heap.size + 1) (by simp)).up hb1
  have hbel := bon (ba2 w _ _) hb1
  have hO := hO.mono (B' := w.heap.size) (by simp; omega)
  clear hb1
  unfold wv
  have hM := mine_new hbox hres hO hbel (Nat.le_refl _) (by omega)
  obtain ⟨c0, c1, c2, c3, c4, c5, c6, c7, c8⟩ := hbox.nine
  have f0 := hbox.f 0
  have f1 := hbox.f 1
  have f2 := hbox.f 2
  have f3 := hbox.f 3
  have f4 := hbox.f 4
  have f5 := hbox.f 5
  have f6 := hbox.f 6
  have f7 := hbox.f 7
  have f8 := hbox.f 8
  go_upto_region 2 with fail
  obtain ⟨w2, hw2⟩ : ∃ X, (((((((((w1.setCell ⟨w.heap.size, 0, none⟩ (.int .i64 now)).setCell ⟨w.heap.size, 1, none⟩ (.slice (T 0).A (T 0).n (T 0).c)).setCell ⟨w.heap.size, 2, none⟩ (.slice (T 1).A (T 1).n (T 1).c)).setCell ⟨w.heap.size, 3, none⟩ (.slice (T 2).A (T 2).n (T 2).c)).setCell ⟨w.heap.size, 4, none⟩ (.slice (T 3).A (T 3).n (T 3).c)).setCell ⟨w.heap.size, 5, none⟩ (.slice (T 4).A (T 4).n (T 4).c)).setCell ⟨w.heap.size, 6, none⟩ (.slice (T 5).A (T 5).n (T 5).c)).setCell ⟨w.heap.size, 7, none⟩ (.slice (T 6).A (T 6).n (T 6).c)).setCell ⟨w.heap.size, 8, none⟩ (.slice (T 7).A (T 7).n (T 7).c)) = X := ⟨_, rfl⟩
  rw [hw2] at hM ⊢
  clear c0 c1 c2 c3 c4 c5 c6 c7 c8 f0 f1 f2 f3 f4 f5 f6 f7 f8 hbox hres hO hbel hw2
  obtain ⟨c0, c1, c2, c3, c4, c5, c6, c7, c8⟩ := hM.ha.nine
  go_wp2_with fail
  refine (HRt.out T _ hM.ho.at).mono ?_
  rintro e w3 ⟨rfl, hb3⟩
  have hM3 := hM.up hb3
  clear c0 c1 c2 c3 c4 c5 c6 c7 c8 hM hb3
  cases hok : okB W with
  | false =>
    have HE : Hid (tickN W = (W, [], 1)) := Lib.hid (by rw [tickN, if_pos hok])
    clear hok
    obtain ⟨c0, c1, c2, c3, c4, c5, c6, c7, c8⟩ := hM3.ha.nine
    obtain ⟨d0, d1, d2, d3, d4, d5, d6, d7, d8⟩ := hM3.hr.nine
    have f0 := hM3.hr.f 0
    have f1 := hM3.hr.f 1
    have f2 := hM3.hr.f 2
    have f3 := hM3.hr.f 3
    have f4 := hM3.hr.f 4
    have f5 := hM3.hr.f 5
    have f6 := hM3.hr.f 6
    have f7 := hM3.hr.f 7
    have f8 := hM3.hr.f 8
    have HO := Lib.hid (hM3.ho.far9 hM3.hr (by decide) (.int .i64 now) (.slice (T 0).A (T 0).n (T 0).c) (.slice (T 1).A (T 1).n (T 1).c) (.slice (T 2).A (T 2).n (T 2).c) (.slice (T 3).A (T 3).n (T 3).c) (.slice (T 4).A (T 4).n (T 4).c) (.slice (T 5).A (T 5).n (T 5).c) (.slice (T 6).A (T 6).n (T 6).c) (.slice (T 7).A (T 7).n (T 7).c))
    have HB := Lib.hid (below_set9 hM3.hb (Nat.le_succ _) (.int .i64 now) (.slice (T 0).A (T 0).n (T 0).c) (.slice (T 1).A (T 1).n (T 1).c) (.slice (T 2).A (T 2).n (T 2).c) (.slice (T 3).A (T 3).n (T 3).c) (.slice (T 4).A (T 4).n (T 4).c) (.slice (T 5).A (T 5).n (T 5).c) (.slice (T 6).A (T 6).n (T 6).c) (.slice (T 7).A (T 7).n (T 7).c))
    have hend : Box _ _ 25 (wcs now T) := hM3.hr.set9 (.int .i64 now) (.slice (T 0).A (T 0).n (T 0).c) (.slice (T 1).A (T 1).n (T 1).c) (.slice (T 2).A (T 2).n (T 2).c) (.slice (T 3).A (T 3).n (T 3).c) (.slice (T 4).A (T 4).n (T 4).c) (.slice (T 5).A (T 5).n (T 5).c) (.slice (T 6).A (T 6).n (T 6).c) (.slice (T 7).A (T 7).n (T 7).c)
    have HEnd := Lib.hid hend.nine
    clear hend
    go_wp2
    obtain ⟨q0, q1, q2, q3, q4, q5, q6, q7, q8⟩ := HEnd.out
    refine bodyPost_ret (v := .tuple #[wv now T, .slice none 0 0, .int .i64 1]) (by simp [results, Try.results11, go_sem, q0, q1, q2, q3, q4, q5, q6, q7, q8]) rfl ?_
    rw [HE.out]; exact ⟨T, ⟨none, 0, 0⟩, by rw [HN.out], HO.out, World.ownsRow_nil _ _ _ _, HB.out⟩
  | true =>
    have HOk := Lib.hid (ok_iff.1 hok)
    have HS1 : Hid (tickN W = if now = 9007199254740992 then (W, [], 3) else (W.tick, W.due, 0)) := Lib.hid (by rw [tickN, if_neg (by rw [hok]; simp), HN.out])
    clear hok
    by_cases hmax : now = 9007199254740992
    · subst hmax
      have HE : Hid (tickN W = (W, [], 3)) := Lib.hid (by rw [HS1.out, if_pos rfl])
      clear HS1
      obtain ⟨c0, c1, c2, c3, c4, c5, c6, c7, c8⟩ := hM3.ha.nine
      obtain ⟨d0, d1, d2, d3, d4, d5, d6, d7, d8⟩ := hM3.hr.nine
      have f0 := hM3.hr.f 0
      have f1 := hM3.hr.f 1
      have f2 := hM3.hr.f 2
      have f3 := hM3.hr.f 3
      have f4 := hM3.hr.f 4
      have f5 := hM3.hr.f 5
      have f6 := hM3.hr.f 6
      have f7 := hM3.hr.f 7
      have f8 := hM3.hr.f 8
      have HO := Lib.hid (hM3.ho.far9 hM3.hr (by decide) (.int .i64 9007199254740992) (.slice (T 0).A (T 0).n (T 0).c) (.slice (T 1).A (T 1).n (T 1).c) (.slice (T 2).A (T 2).n (T 2).c) (.slice (T 3).A (T 3).n (T 3).c) (.slice (T 4).A (T 4).n (T 4).c) (.slice (T 5).A (T 5).n (T 5).c) (.slice (T 6).A (T 6).n (T 6).c) (.slice (T 7).A (T 7).n (T 7).c))
      have HB := Lib.hid (below_set9 hM3.hb (Nat.le_succ _) (.int .i64 9007199254740992) (.slice (T 0).A (T 0).n (T 0).c) (.slice (T 1).A (T 1).n (T 1).c) (.slice (T 2).A (T 2).n (T 2).c) (.slice (T 3).A (T 3).n (T 3).c) (.slice (T 4).A (T 4).n (T 4).c) (.slice (T 5).A (T 5).n (T 5).c) (.slice (T 6).A (T 6).n (T 6).c) (.slice (T 7).A (T 7).n (T 7).c))
      have hend : Box _ _ 25 (wcs 9007199254740992 T) := hM3.hr.set9 (.int .i64 9007199254740992) (.slice (T 0).A (T 0).n (T 0).c) (.slice (T 1).A (T 1).n (T 1).c) (.slice (T 2).A (T 2).n (T 2).c) (.slice (T 3).A (T 3).n (T 3).c) (.slice (T 4).A (T 4).n (T 4).c) (.slice (T 5).A (T 5).n (T 5).c) (.slice (T 6).A (T 6).n (T 6).c) (.slice (T 7).A (T 7).n (T 7).c)
      have HEnd := Lib.hid hend.nine
      clear hend
      go_wp2
      obtain ⟨q0, q1, q2, q3, q4, q5, q6, q7, q8⟩ := HEnd.out
      refine bodyPost_ret (v := .tuple #[wv 9007199254740992 T, .slice none 0 0, .int .i64 3]) (by simp [results, Try.results11, go_sem, q0, q1, q2, q3, q4, q5, q6, q7, q8]) rfl ?_
      rw [HE.out]; exact ⟨T, ⟨none, 0, 0⟩, by rw [HN.out], HO.out, World.ownsRow_nil _ _ _ _, HB.out⟩
    · have HE : Hid (tickN W = (W.tick, W.due, 0)) := Lib.hid (by rw [HS1.out, if_neg hmax])
      have h0n : 0 ≤ now ∧ now < 9007199254740992 := by
        have h1 := HOk.out.lo
        have h2 := HOk.out.hi
        rw [HN.out] at h1 h2
        omega
      obtain ⟨r, hr⟩ : ∃ r : Nat, ((now + 1) % 8).toNat = r := ⟨_, rfl⟩
      have hr8 : r < 8 := by omega
      have t1 : (now + 1).tmod 8 = (r : Int) := by rw [Int.tmod_eq_emod_of_nonneg (by omega)]; omega
      have e1 : IntKind.i64.wrap (now + 1) = now + 1 := IntWalk.i64_in _ (by omega)
      have HTick : Hid ((W.tick).now = now + 1 ∧ W.due = ((W.sl r).filter (fun t => t.2 == now + 1)).map Prod.fst ∧ ∀ j, j < 8 → (W.tick).sl j = (W.put r ((W.sl r).filter (fun t => !(t.2 == now + 1)))).sl j) := Lib.hid (by
        refine ⟨by rw [Wl.tick, HN.out], by rw [Wl.due, HN.out, hr], fun j _ => ?_⟩
        by_cases hj : j = r
        · subst hj
          simp only [Wl.tick, Wl.put, HN.out, hr, if_true]
          rfl
        · simp only [Wl.tick, Wl.put, HN.out, hr, if_neg hj])
      clear hr HS1
      have hM4 := hM3.up (ba1 w3 (.cells #[.int .i64 (now + 1)] 3))
      have hI4 := Box.new w3 3 #[.int .i64 (now + 1)]
      have hn64 : (T r).n ≤ 1000 := by
        have h1 := (hM3.ho.row r hr8).len
        have h2 := len_le W hr8
        omega
      have c0 := hM3.ha.c 0 (v := .int .i64 now) rfl
      obtain ⟨gc, hgc⟩ : ∃ gc, w3.heap.size = gc := ⟨_, rfl⟩
      rw [hgc] at hI4
      have hrI : (r : Int) < 8 := by omega
      go_upto_region 9 with fail
      obtain ⟨w4, hw4⟩ : ∃ X, w3.alloc (.cells #[.int .i64 (now + 1)] 3) = X := ⟨_, rfl⟩
      rw [hw4] at hM4 hI4 ⊢
      have hgc2 : w.heap.size ≤ gc := by rw [← hgc]; exact hM3.le
      have hgcne : gc ≠ w.heap.size := by
        have := hM3.ha.lt
        omega
      have hgcne2 : gc ≠ w.heap.size + 1 := by
        have := hM3.hr.lt
        omega
      clear hM3 c0 hw4 hgc
      have HIds := Lib.hid (idsOf_any (tells_due gc (now + 1)) (T r) (W.sl r) w4 (hM4.ho.row r hr8).len (hM4.ho.row r hr8).ts hn64 hI4)
      have hc := hM4.ha.slot hr8
      go_wp2_with fail
      refine HIds.out.mono ?_
      rintro e w5 ⟨F, rfl, hF⟩
      have hM5 := hM4.up hF.hb
      have hI5 := hI4.up hF.hb
      have hF5 : IRow w5 w.heap.size F (((W.sl r).filter (fun t => t.2 == now + 1)).map Prod.fst) := by
        refine ⟨hF.f.1, ?_⟩
        rcases hF.f.2 with q | ⟨g, cap, cur, q1, q2, q3⟩
        · exact .inl q
        · exact .inr ⟨g, cap, cur, q1, Nat.le_trans hM4.le q2, q3⟩
      obtain ⟨fs, hfs⟩ : ∃ fs, ((W.sl r).filter (fun t => t.2 == now + 1)).map Prod.fst = fs := ⟨_, rfl⟩
      have HDue : Hid (W.due = fs) := Lib.hid (by rw [HTick.out.2.1, hfs])
      rw [hfs] at hF5
      clear hfs hM4 hI4 HIds hc hF
      have hM6 := hM5.now (Nat.le_refl _) (by omega) (now + 1)
      have hI6 := hI5.far (p := ⟨w.heap.size, 0, none⟩) hgcne (.int .i64 (now + 1))
      have hF6 := hF5.farB hM5.ha 0 (.int .i64 (now + 1))
      have ci := hI5.one.1
      have c0 := hM5.ha.c 0 (v := .int .i64 now) rfl
      have f0 := hM5.ha.f 0
      go_upto_region 11 with fail
      obtain ⟨w6, hw6⟩ : ∃ X, w5.setCell ⟨w.heap.size, 0, none⟩ (.int .i64 (now + 1)) = X := ⟨_, rfl⟩
      rw [hw6] at hM6 hI6 hF6 ⊢
      clear hM5 hI5 hF5 ci c0 f0 hw6
      have HDel := Lib.hid (deleteFunc_any (tells_due gc (now + 1)) (T r) (W.sl r) w6 (hM6.ho.row r hr8) hn64 hI6)
      have hc := hM6.ha.slot hr8
      go_wp2_with fail
      refine HDel.out.mono ?_
      rintro e w7 ⟨s, rfl, hsA, hrow, hg⟩
      have ha7 := hM6.ha.other (by decide) (hM6.ho.row r hr8) hg
      have hF7 := (hF6.other (hM6.ho.row r hr8) hg).farB ha7 (1 + r) (.slice s.A s.n s.c)
      have hM7 := (hM6.bent hr8 hrow hsA hg (Nat.le_refl _) (by omega)).same HTick.out.2.2
      have HND := Lib.hid HTick.out.1
      obtain ⟨A', n', c'⟩ := s
      simp only at hM7 hF7 ⊢
      clear hc HDel hrow hg hsA hM6 hI6 hF6 HTick
      have hc := ha7.slot hr8
      have hfz := ha7.f (1 + r)
      obtain ⟨U, hU⟩ : ∃ U, putS T r ⟨A', n', c'⟩ = U := ⟨_, rfl⟩
      rw [hU] at hM7
      have HF8 := Lib.hid (hF7.far9 hM7.hr (.int .i64 (now + 1)) (.slice (U 0).A (U 0).n (U 0).c) (.slice (U 1).A (U 1).n (U 1).c) (.slice (U 2).A (U 2).n (U 2).c) (.slice (U 3).A (U 3).n (U 3).c) (.slice (U 4).A (U 4).n (U 4).c) (.slice (U 5).A (U 5).n (U 5).c) (.slice (U 6).A (U 6).n (U 6).c) (.slice (U 7).A (U 7).n (U 7).c))
      clear hU ha7 hF7
      obtain ⟨c0, c1, c2, c3, c4, c5, c6, c7, c8⟩ := hM7.ha.nine
      obtain ⟨d0, d1, d2, d3, d4, d5, d6, d7, d8⟩ := hM7.hr.nine
      have f0 := hM7.hr.f 0
      have f1 := hM7.hr.f 1
      have f2 := hM7.hr.f 2
      have f3 := hM7.hr.f 3
      have f4 := hM7.hr.f 4
      have f5 := hM7.hr.f 5
      have f6 := hM7.hr.f 6
      have f7 := hM7.hr.f 7
      have f8 := hM7.hr.f 8
      have HO := Lib.hid (hM7.ho.far9 hM7.hr (by decide) (.int .i64 (now + 1)) (.slice (U 0).A (U 0).n (U 0).c) (.slice (U 1).A (U 1).n (U 1).c) (.slice (U 2).A (U 2).n (U 2).c) (.slice (U 3).A (U 3).n (U 3).c) (.slice (U 4).A (U 4).n (U 4).c) (.slice (U 5).A (U 5).n (U 5).c) (.slice (U 6).A (U 6).n (U 6).c) (.slice (U 7).A (U 7).n (U 7).c))
      have HB := Lib.hid (below_set9 hM7.hb (Nat.le_succ _) (.int .i64 (now + 1)) (.slice (U 0).A (U 0).n (U 0).c) (.slice (U 1).A (U 1).n (U 1).c) (.slice (U 2).A (U 2).n (U 2).c) (.slice (U 3).A (U 3).n (U 3).c) (.slice (U 4).A (U 4).n (U 4).c) (.slice (U 5).A (U 5).n (U 5).c) (.slice (U 6).A (U 6).n (U 6).c) (.slice (U 7).A (U 7).n (U 7).c))
      have hend : Box _ _ 25 (wcs (now + 1) U) := hM7.hr.set9 (.int .i64 (now + 1)) (.slice (U 0).A (U 0).n (U 0).c) (.slice (U 1).A (U 1).n (U 1).c) (.slice (U 2).A (U 2).n (U 2).c) (.slice (U 3).A (U 3).n (U 3).c) (.slice (U 4).A (U 4).n (U 4).c) (.slice (U 5).A (U 5).n (U 5).c) (.slice (U 6).A (U 6).n (U 6).c) (.slice (U 7).A (U 7).n (U 7).c)
      have HEnd := Lib.hid hend.nine
      clear hend
      go_wp2
      obtain ⟨q0, q1, q2, q3, q4, q5, q6, q7, q8⟩ := HEnd.out
      refine bodyPost_ret (v := .tuple #[wv (now + 1) U, .slice F.A F.n F.c, .int .i64 0]) (by simp [results, Try.results11, go_sem, q0, q1, q2, q3, q4, q5, q6, q7, q8]) rfl ?_
      rw [HE.out]; exact ⟨U, F, by rw [HND.out], HO.out, by rw [HDue.out]; exact HF8.out, HB.out⟩

end Go.Proofs.Ytncbfkoldllbpaa
