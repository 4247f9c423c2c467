/-
  The walks of the program's own distinct and Right.
-/
import Derived.Test.YtncbfkoldllbpaaWd
import Derived.Test.YtncbfkoldllbpaaShelf
import Derived.Test.YtncbfkoldllbpaaRefG
import Derived.Sort.OwnSortedInts
namespace Go.Proofs.Ytncbfkoldllbpaa
open Go.RowKit

theorem IRow.up {w w' : World} {B : Nat} {s : Sli} {xs : List Int} (h : IRow w B s xs) (hb : Below w.heap.size w w') : IRow w' B s xs := h.keep fun _ _ hg => hb.block _ (Array.getElem?_eq_some_iff.1 hg).1

/-- slices.Sort, of numbers of the call's own -/
theorem sort_any {B : Nat} {F : Sli} {zs : List Int} {w : World} (hR : IRow w B F zs) (hn : F.n ≤ 1000000) :
    Calls Try.prog 36 #[.slice F.A F.n F.c] w fun e w' => e = .returned (.tuple #[]) ∧ IRow w' B F (inOrder zs) ∧ ∀ a, Below B a w → Below B a w' := by
  have hl : zs.length = F.n := by have := hR.1; simpa using this
  rcases hR.2 with ⟨h1, h2⟩ | ⟨g, cap, cur, h1, hb, hg, hnc, hm, hcs, hv⟩
  · have hz : zs = [] := List.eq_nil_of_length_eq_zero (hl.trans h2)
    subst hz
    rw [h2] at *
    refine (sh_Sort_int_none F.A F.c w).mono ?_
    rintro e w' ⟨rfl, rfl⟩
    exact ⟨rfl, by rw [show inOrder [] = [] from List.mergeSort_nil]; exact hR, fun a ha => ha⟩
  · simp only [Value.slice.injEq] at h1
    obtain ⟨hA, _, hc⟩ := h1
    have hblk := (Array.getElem?_eq_some_iff.1 hg).1
    have hH : Go.Sort.Holds (Value.int .i64) w g 0 zs.toArray := holds_of_blockI hg (by rw [hl, ← hv, Nat.mul_one])
    have key := sh_Sort_int g 0 F.c zs w hH hblk (by omega)
    rw [hA, ← hl]
    refine key.mono ?_
    rintro e w' ⟨rfl, n, os, rfl⟩
    refine ⟨rfl, ?_, ?_⟩
    · have h3 := ownsRow_sortedI (n := n) (os := os) (ss := zs) (ts := inOrder zs) (inOrder_len zs) hb hg (by rw [hl]; exact hnc) hm hcs
      show World.ownsRow _ _ _ _ _ _ _
      rw [hA, hc, ← hl]
      exact h3
    · intro a ha
      have hg2 := grownBy_sortedI (w := w) (g := g) (n := n) (os := os) (inOrder zs).toArray
      refine ha.grown hg2 (by omega) fun k hk => ?_
      obtain rfl := Option.some.inj hk
      exact hb

open Classical in
noncomputable def onceB (W : Wl) : Bool := decide (idsAll W 8).Nodup
theorem onceB_iff {W : Wl} : onceB W = true ↔ (idsAll W 8).Nodup := by simp [onceB]
theorem onceB_not {W : Wl} : onceB W = false ↔ ¬ (idsAll W 8).Nodup := by simp [onceB]

/-- what stands between two rounds -/
structure DisR (w wr : World) (F : Sli) (fs : List Int) : Prop where
  f : IRow wr w.heap.size F fs
  hb : Below w.heap.size w wr
theorem DisR.up {w wr wr' : World} {F : Sli} {fs : List Int} (h : DisR w wr F fs) (hb : Below wr.heap.size wr wr') : DisR w wr' F fs := ⟨h.f.up hb, bon h.hb hb⟩
theorem DisR.app {w wr w' : World} {F : Sli} {fs : List Int} (h : DisR w wr F fs) {F' : Sli} {x : Int} (h1 : IRow w' w.heap.size F' (fs ++ [x])) (hg : wr.grownBy w' (Value.slice F.A F.n F.c).ownBlock) : DisR w w' F' (fs ++ [x]) :=
  ⟨h1, grown_base h.f hg h.hb (Nat.le_refl _) h.hb.size⟩

theorem src_one (wd : World) (x : Int) : Src (wd.alloc (.cells #[.int .i64 x] 3)) 1 (some ⟨wd.heap.size, 0, none⟩) 1 1 ([x].map (Value.int .i64)) := by
  have hb := Box.new wd 3 #[.int .i64 x]
  refine .inr ⟨_, rfl, rfl, fun j u hu => ?_⟩
  rw [Addr.add_lit, Nat.zero_add]
  refine hb.c j ?_
  have : (#[Value.int .i64 x])[j]? = ([x].map (Value.int .i64))[j]? := by rw [← Array.getElem?_toList]; rfl
  rw [this]
  exact hu

set_option maxRecDepth 100000 in
set_option maxHeartbeats 4000000 in
theorem distinct_any (W : Wl) (S : Nat → Sli) (w : World) (h : At w W S) (hf : manyN W ≤ 1000) : Calls Try.prog 30 #[wv W.now S] w fun e w' => e = .returned (.bool (onceB W)) ∧ Below w.heap.size w w' := by
  obtain ⟨now, hn⟩ : ∃ now, W.now = now := ⟨_, rfl⟩
  rw [hn]
  clear hn
  obtain ⟨i3, hi3, hz30, hz31, hz32⟩ := info_parts info3
  unfold wv
  go_enter Try.func30, Try.ntmps30
  go_wp2_with fail
  go_loopw [3, 5, 7, 11] (fun v3 v5 v7 vi wr => ∃ (i : Nat) (F : Sli), i ≤ 8 ∧ vi = .int .i64 (i : Int) ∧ v3 = .slice F.A F.n F.c ∧ Hid (F.n = manyTo W i) ∧ DisR w wr F (idsAll W i)) (fun _ _ _ vi _ => 8 - (intOf vi).toNat)
  case atStart => exact ⟨0, ⟨none, 0, 0⟩, by omega, rfl, rfl, Lib.hid rfl, World.ownsRow_nil _ _ _ _, ba1 _ _⟩
  case round =>
    obtain ⟨i, F, hi, rfl, rfl, HFn, hR⟩ := hrel
    by_cases hlt : i < 8
    · have hx := idx8 S hlt
      have HL := Lib.hid (h.len i hlt)
      have hmx := (h.le i hlt).2
      unfold maxLen at hmx
      have hm1 : manyTo W (i + 1) ≤ 1000 := by
        have h1 := many_le W (show i + 1 ≤ 8 by omega)
        unfold manyN at hf
        omega
      have HM : Hid (manyTo W i + (S i).n ≤ 1000 ∧ manyTo W (i + 1) = manyTo W i + (S i).n) := Lib.hid (by
        have h2 : manyTo W (i + 1) = manyTo W i + (W.sl i).length := rfl
        rw [HL.out] at h2
        omega)
      clear hm1
      go_wp2_with fail
      rw [show decide ((i : Int) < 8) = true from decide_eq_true (by omega)]
      go_loopw [3, 7, 16] (fun v3 v7 vk wq => ∃ (k : Nat) (F : Sli), k ≤ (S i).n ∧ vk = .int .i64 (k : Int) ∧ v3 = .slice F.A F.n F.c ∧ Hid (F.n = manyTo W i + k) ∧ DisR w wq F (idsAll W i ++ ((W.sl i).take k).map Prod.fst)) (fun _ _ vk _ => (S i).n - (intOf vk).toNat)
      case atStart => exact ⟨0, F, Nat.zero_le _, rfl, rfl, HFn, by simpa using hR⟩
      case round =>
        clear hR HFn
        obtain ⟨k, F, hk, rfl, rfl, HFn, hR⟩ := hrel
        by_cases hkn : k < (S i).n
        · obtain ⟨⟨x, y⟩, ht⟩ : ∃ t : Tm, (W.sl i)[k]? = some t := ⟨_, List.getElem?_eq_getElem (by rw [HL.out]; exact hkn)⟩
          obtain ⟨b, o, hA, hb, hx, hy⟩ := ((h.ts i hlt).up hR.hb).two ht
          have hx : wr.cell? ⟨b, o + k * 2, none⟩ = some (.int .i64 x) := hx
          have hy : wr.cell? ⟨b, o + k * 2 + 1, none⟩ = some (.int .i64 y) := hy
          have HTk : Hid (idsAll W i ++ ((W.sl i).take (k + 1)).map Prod.fst = (idsAll W i ++ ((W.sl i).take k).map Prod.fst) ++ [x]) := Lib.hid (by rw [List.take_add_one, ht]; simp)
          obtain ⟨fs, hfs⟩ : ∃ fs, idsAll W i ++ ((W.sl i).take k).map Prod.fst = fs := ⟨_, rfl⟩
          rw [hfs] at HTk hR
          rw [hA]
          clear ht hA hfs
          have hFb : F.n + 1 ≤ 1000 := by have := HFn.out; have := HM.out; omega
          have HR2 := Lib.hid ((hR.up (ba1 wr (.cells #[.int .i64 x, .int .i64 y] 34))).up (ba1 _ (.cells #[.int .i64 x] 3)))
          have HSrc := Lib.hid (src_one (wr.alloc (.cells #[.int .i64 x, .int .i64 y] 34)) x)
          have hBw := HR2.out.hb.size
          clear hR
          have hsz : (wr.alloc (.cells #[.int .i64 x, .int .i64 y] 34)).heap.size = wr.heap.size + 1 := by simp
          rw [hsz] at HSrc
          go_wp2_with (at_builtin; refine wpList_app _ rfl _ _ 37 rfl w.heap.size 3 i3 _ 1 8 (by decide) Try.underlying37 hi3 hz30 hz31 hz32 rfl (.slice F.A F.n F.c) F.n (fs.map (Value.int .i64)) rfl HR2.out.f (some ⟨wr.heap.size + 1, 0, none⟩) 1 1 ([x].map (Value.int .i64)) rfl HSrc.out (one_iv _) ?_ ?_ hBw (F.n + 1) rfl ?_; (unfold maxLen; omega); omega; intro A' c' w' h1 h2 h3; refine Hid.out ?_)
          have HR3 := Lib.hid (HR2.out.app (F' := ⟨A', F.n + 1, c'⟩) (x := x) (by show w'.ownsRow _ _ _ _ _ _; rw [List.map_append]; exact h1) h2)
          have HF2 : Hid (F.n + 1 = manyTo W i + (k + 1)) := Lib.hid (by have := HFn.out; omega)
          clear h1 h2 h3 HR2 HSrc hx hy
          refine Lib.hid ?_
          go_wp2
          refine ⟨⟨k + 1, ⟨A', F.n + 1, c'⟩, by omega, by go_num, rfl, HF2, by rw [HTk.out]; exact HR3.out⟩, by simp [intOf]; omega⟩
        · have : k = (S i).n := by omega
          subst this
          have HE : Hid (idsAll W (i + 1) = idsAll W i ++ ((W.sl i).take (S i).n).map Prod.fst) := Lib.hid (by rw [← HL.out, List.take_length]; rfl)
          have HF2 : Hid (F.n = manyTo W (i + 1)) := Lib.hid (by rw [HFn.out, HM.out.2])
          go_wp2
          refine ⟨⟨i + 1, F, by omega, by go_num, rfl, HF2, by rw [HE.out]; exact hR⟩, by simp [intOf]; omega⟩
    · have : i = 8 := by omega
      subst this
      have hFb : F.n ≤ 1000 := by have := HFn.out; unfold manyN at hf; omega
      clear HFn
      have HRS := Lib.hid hR
      clear hR
      go_wp2_with fail
      refine (sort_any HRS.out.f (by omega)).mono ?_
      rintro e w2 ⟨rfl, hI, hbs⟩
      have hb2 := hbs _ HRS.out.hb
      have HNd : Hid ((inOrder (idsAll W 8)).Nodup ↔ (idsAll W 8).Nodup) := Lib.hid (inOrder_nodup _)
      have HLe : Hid ((inOrder (idsAll W 8)).Pairwise (· ≤ ·)) := Lib.hid (inOrder_le _)
      obtain ⟨ys, hys⟩ : ∃ ys, inOrder (idsAll W 8) = ys := ⟨_, rfl⟩
      rw [hys] at hI HNd HLe
      clear hys hbs HRS
      obtain ⟨A, n, c⟩ := F
      simp only at hFb hI ⊢
      have HLen := Lib.hid hI.ints.len
      have HR : Hid (DisR w w2 ⟨A, n, c⟩ ys) := Lib.hid ⟨hI, hb2⟩
      clear hI hb2
      go_wp2_with fail
      go_loopw [8] (fun v8 wr => ∃ i : Nat, 1 ≤ i ∧ (i ≤ n ∨ i = 1) ∧ v8 = .int .i64 (i : Int) ∧ Hid (∀ (j : Nat) (x y : Int), j + 1 < i → ys[j]? = some x → ys[j + 1]? = some y → y ≠ x) ∧ DisR w wr ⟨A, n, c⟩ ys) (fun vi _ => n - (intOf vi).toNat)
      case atStart => exact ⟨1, Nat.le_refl _, .inr rfl, rfl, Lib.hid (fun j x y hj => by omega), HR.out⟩
      case round =>
        clear HR
        obtain ⟨i, hi1, hi2, rfl, HK, hR⟩ := hrel
        by_cases hin : i < n
        · obtain ⟨j, rfl⟩ : ∃ j, i = j + 1 := ⟨i - 1, by omega⟩
          obtain ⟨x, hx⟩ : ∃ x, ys[j]? = some x := ⟨_, List.getElem?_eq_getElem (by rw [HLen.out]; omega)⟩
          obtain ⟨y, hy⟩ : ∃ y, ys[j + 1]? = some y := ⟨_, List.getElem?_eq_getElem (by rw [HLen.out]; omega)⟩
          have HX := Lib.hid hx
          have HY := Lib.hid hy
          obtain ⟨b, o, hA, hb, hc1⟩ := hR.f.ints.is.two hx
          obtain ⟨b', o', hA', hb', hc2⟩ := hR.f.ints.is.two hy
          simp only at hA hA'
          subst hA
          simp only [Option.some.injEq, Addr.mk.injEq, and_true] at hA'
          obtain ⟨rfl, rfl⟩ := hA'
          clear hx hy
          have e1 : IntKind.i64.wrap (((j + 1 : Nat) : Int) - 1) = (j : Int) := by rw [IntWalk.i64_in _ (by omega)]; omega
          have hkI : ((j + 1 : Nat) : Int) < (n : Int) := by omega
          have hk0 : (0 : Int) ≤ ((j + 1 : Nat) : Int) := by omega
          have hjI : (j : Int) < (n : Int) := by omega
          have hj0 : (0 : Int) ≤ (j : Int) := by omega
          by_cases hyx : y = x
          · subst hyx
            have HE : Hid (onceB W = false) := Lib.hid (onceB_not.2 fun hq => not_nodup HX.out HY.out (HNd.out.2 hq))
            go_wp2_with fail
            go_quiet (fail)
            go_wp2
            go_ret
            exact ⟨ret_bool HE.out.symm, below_drewN hR.hb _⟩
          · go_wp2_with fail
            go_quiet (fail)
            have hR2 := hR.up (below_drewN (Below.refl _ _) nq)
            go_wp2
            refine ⟨⟨j + 2, by omega, by omega, by go_num, Lib.hid (fun j' x' y' hj' hx' hy' => ?_), hR2⟩, by simp [intOf]; omega⟩
            by_cases hjj : j' + 1 < j + 1
            · exact HK.out j' x' y' hjj hx' hy'
            · have : j' = j := by omega
              subst this
              have q1 := Option.some.inj (HX.out.symm.trans hx')
              have q2 := Option.some.inj (HY.out.symm.trans hy')
              rw [← q1, ← q2]
              exact hyx
        · have HE : Hid (onceB W = true) := Lib.hid (onceB_iff.2 (HNd.out.1 (nodup_sorted HLe.out fun j x y hx hy => HK.out j x y (by
            have := (List.getElem?_eq_some_iff.1 hy).1
            rw [HLen.out] at this
            omega) hx hy)))
          go_wp2
          go_ret
          exact ⟨ret_bool HE.out.symm, hR.hb⟩

set_option maxRecDepth 100000 in
set_option maxHeartbeats 4000000 in
theorem right_any (W : Wl) (S : Nat → Sli) (w : World) (h : At w W S) (hf : manyN W ≤ 1000) : Calls Try.prog 14 #[wv W.now S] w (BoolEnds (okB W) w) := by
  have HC := Lib.hid (fun W1 (hb : Below w.heap.size w W1) => count_any W S W1 (h.up hb) (by omega))
  have HP := Lib.hid (fun W1 (hb : Below w.heap.size w W1) (h0 : 0 ≤ W.now) => placed_any W S W1 (h.up hb) h0)
  have HD := Lib.hid (fun W1 (hb : Below w.heap.size w W1) => distinct_any W S W1 (h.up hb) hf)
  obtain ⟨m, hm⟩ : ∃ m, manyN W = m := ⟨_, rfl⟩
  obtain ⟨now, hn⟩ : ∃ now, W.now = now := ⟨_, rfl⟩
  rw [hm] at HC hf
  rw [hn] at HC HP HD ⊢
  have HN := Lib.hid hn
  have HM2 := Lib.hid hm
  clear hm hn h
  unfold wv at HC HP HD ⊢
  have hcase : now < 0 ∨ (0 ≤ now ∧ 9007199254740992 < now) ∨ (0 ≤ now ∧ now ≤ 9007199254740992 ∧ 64 < m) ∨ (0 ≤ now ∧ now ≤ 9007199254740992 ∧ m ≤ 64) := by omega
  rcases hcase with h1 | ⟨h1, h2⟩ | ⟨h1, h2, h3⟩ | ⟨h1, h2, h3⟩
  · have HE : Hid (okB W = false) := Lib.hid (ok_not.2 fun ho => by have := ho.lo; rw [HN.out] at this; omega)
    go_enter Try.func14, Try.ntmps14
    go_wp2
    go_ret
    exact ⟨ret_bool HE.out.symm, ba1 _ _⟩
  · have HE : Hid (okB W = false) := Lib.hid (ok_not.2 fun ho => by have := ho.hi; rw [HN.out] at this; omega)
    go_enter Try.func14, Try.ntmps14
    go_wp2
    go_ret
    exact ⟨ret_bool HE.out.symm, ba1 _ _⟩
  · have HE : Hid (okB W = false) := Lib.hid (ok_not.2 fun ho => by have := ho.few; rw [HM2.out] at this; omega)
    go_enter Try.func14, Try.ntmps14
    go_wp2_with fail
    refine (HC.out _ (ba1 _ _)).mono ?_
    rintro e w1 ⟨rfl, hb1⟩
    go_wp2
    go_ret
    exact ⟨ret_bool HE.out.symm, bon (ba1 _ _) hb1⟩
  · have HOk : Hid (okB W = (placedB W && onceB W)) := Lib.hid (by
      rw [Bool.eq_iff_iff, ok_iff, Bool.and_eq_true, placed_iff, onceB_iff, ok_program, HN.out, HM2.out]
      exact ⟨fun q => q.2.2.2, fun q => ⟨h1, h2, h3, q⟩⟩)
    go_enter Try.func14, Try.ntmps14
    go_wp2_with fail
    refine (HC.out _ (ba1 _ _)).mono ?_
    rintro e w1 ⟨rfl, hb1⟩
    have hbox1 := (Box.new w 25 (wcs now S)).up hb1
    have hb1 := bon (ba1 w _) hb1
    obtain ⟨c0, c1, c2, c3, c4, c5, c6, c7, c8⟩ := hbox1.nine
    go_wp2_with fail
    refine (HP.out _ hb1 h1).mono ?_
    rintro e w2 ⟨rfl, hb2⟩
    have hbox2 := hbox1.up hb2
    have hb2 := bon hb1 hb2
    clear c0 c1 c2 c3 c4 c5 c6 c7 c8 hbox1 hb1
    obtain ⟨c0, c1, c2, c3, c4, c5, c6, c7, c8⟩ := hbox2.nine
    cases hp : placedB W with
    | false =>
      have HE : Hid (okB W = false) := Lib.hid (by rw [HOk.out, hp]; rfl)
      go_wp2
      go_ret
      exact ⟨ret_bool HE.out.symm, hb2⟩
    | true =>
      have HE : Hid (okB W = onceB W) := Lib.hid (by rw [HOk.out, hp]; rfl)
      go_wp2_with fail
      refine (HD.out _ hb2).mono ?_
      rintro e w3 ⟨rfl, hb3⟩
      go_wp2
      go_ret
      exact ⟨ret_bool HE.out.symm, bon hb2 hb3⟩

end Go.Proofs.Ytncbfkoldllbpaa
