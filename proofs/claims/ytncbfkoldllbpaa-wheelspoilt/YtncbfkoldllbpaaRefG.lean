/-
  The walks of the document's own Same and Ints, where the two are the same.
-/
import Derived.Test.YtncbfkoldllbpaaRefF
namespace Go.Proofs.Ytncbfkoldllbpaa
open Go.RowKit

set_option maxRecDepth 100000 in
set_option maxHeartbeats 4000000 in
theorem same_any (W : Wl) (S S' : Nat → Sli) (w : World) (h : At w W S) (h' : At w W S') : Calls Try.prog 19 #[wv W.now S, wv W.now S'] w (BoolEnds true w) := by
  obtain ⟨now, hn⟩ : ∃ now, W.now = now := ⟨_, rfl⟩
  rw [hn]
  clear hn
  have HH := Lib.hid h
  have HH' := Lib.hid h'
  clear h h'
  unfold wv
  go_enter Try.func19, Try.ntmps19
  go_wp2_with fail
  go_loopw [5, 6] (fun vi vk wr => ∃ i : Nat, i ≤ 8 ∧ vi = .int .i64 (i : Int) ∧ Box wr w.heap.size 25 (wcs now S) ∧ Box wr (w.heap.size + 1) 25 (wcs now S') ∧ Below w.heap.size w wr) (fun vi _ _ => 8 - (intOf vi).toNat)
  case atStart => exact ⟨0, by omega, rfl, (Box.new _ _ _).alloc _, Box.mk' _ _ _ _ (by simp), ba2 _ _ _⟩
  case round =>
    obtain ⟨i, hi, rfl, hbox, hbox', hbel⟩ := hrel
    by_cases hlt : i < 8
    · have hc := hbox.slot hlt
      have hc' := hbox'.slot hlt
      have hl := HH.out.len i hlt
      have hl' := HH'.out.len i hlt
      have hne : (S' i).n = (S i).n := by omega
      rw [hne] at hc'
      have HL := Lib.hid hl
      have hmx := (HH.out.le i hlt).2
      unfold maxLen at hmx
      have HT := Lib.hid ((HH.out.ts i hlt).up hbel)
      have HT' := Lib.hid ((HH'.out.ts i hlt).up hbel)
      clear hl hl' hne
      have hI8 : (i : Int) < 8 := by omega
      have hI0 : (0 : Int) ≤ (i : Int) := by omega
      go_wp2_with fail
      go_quiet (fail)
      go_wp2_with fail
      have hbd := below_drewN hbel nq
      have hboxd : Box (wr.drewN nq) w.heap.size 25 (wcs now S) := hbox
      have hboxd' : Box (wr.drewN nq) (w.heap.size + 1) 25 (wcs now S') := hbox'
      go_loopw [6] (fun vk wq => ∃ k : Nat, k ≤ (S i).n ∧ vk = .int .i64 (k : Int) ∧ Box wq w.heap.size 25 (wcs now S) ∧ Box wq (w.heap.size + 1) 25 (wcs now S') ∧ Below w.heap.size w wq) (fun vk _ => (S i).n - (intOf vk).toNat)
      case atStart => exact ⟨0, Nat.zero_le _, rfl, hboxd, hboxd', hbd⟩
      case round =>
        clear hc hc' HT HT' hbox hbox' hbel hbd hboxd hboxd'
        obtain ⟨k, hk, rfl, hbox, hbox', hbel⟩ := hrel
        have hc := hbox.slot hlt
        have hc' := hbox'.slot hlt
        have hne : (S' i).n = (S i).n := by have h1 := HH.out.len i hlt; have h2 := HH'.out.len i hlt; omega
        rw [hne] at hc'
        clear hne
        by_cases hkn : k < (S i).n
        · obtain ⟨⟨x, y⟩, ht⟩ : ∃ t : Tm, (W.sl i)[k]? = some t := ⟨_, List.getElem?_eq_getElem (by rw [HL.out]; exact hkn)⟩
          obtain ⟨b, o, hA, hb, hx, hy⟩ := ((HH.out.ts i hlt).up hbel).two ht
          obtain ⟨b', o', hA', hb', hx', hy'⟩ := ((HH'.out.ts i hlt).up hbel).two ht
          have hx : wr.cell? ⟨b, o + k * 2, none⟩ = some (.int .i64 x) := hx
          have hy : wr.cell? ⟨b, o + k * 2 + 1, none⟩ = some (.int .i64 y) := hy
          have hx' : wr.cell? ⟨b', o' + k * 2, none⟩ = some (.int .i64 x) := hx'
          have hy' : wr.cell? ⟨b', o' + k * 2 + 1, none⟩ = some (.int .i64 y) := hy'
          rw [hA] at hc
          rw [hA'] at hc'
          clear ht hA hA'
          have hkI : (k : Int) < ((S i).n : Int) := by omega
          have hk0 : (0 : Int) ≤ (k : Int) := by omega
          go_wp2_with fail
          go_quiet (fail)
          go_wp2
          refine ⟨⟨k + 1, by omega, by go_num, hbox, hbox', below_drewN hbel _⟩, by simp [intOf]; omega⟩
        · have : k = (S i).n := by omega
          subst this
          go_wp2
          refine ⟨⟨i + 1, by omega, by go_num, hbox, hbox', hbel⟩, by simp [intOf]; omega⟩
    · have : i = 8 := by omega
      subst this
      have e0 := hbox.c 0 (v := .int .i64 now) rfl
      have e1 := hbox'.c 0 (v := .int .i64 now) rfl
      go_wp2
      go_ret
      exact ⟨rfl, hbel⟩

theorem Is.two {w : World} {A : Option Addr} {xs : List Int} (h : Is w A xs) {k : Nat} {x : Int} (hx : xs[k]? = some x) : ∃ b o, A = some ⟨b, o, none⟩ ∧ b < w.heap.size ∧ w.cell? ⟨b, o + k, none⟩ = some (.int .i64 x) := by
  have hk := (List.getElem?_eq_some_iff.1 hx).1
  obtain ⟨b, o, hA, hb, hc⟩ := h (by omega)
  have := hc k hk
  rw [hx] at this
  exact ⟨b, o, hA, hb, this⟩

set_option maxRecDepth 100000 in
set_option maxHeartbeats 2000000 in
theorem ints_any (xs : List Int) (F G : Sli) (w : World) (h : Ints w F xs) (h' : Ints w G xs) (hm : xs.length ≤ 1000000) : Calls Try.prog 20 #[.slice F.A F.n F.c, .slice G.A G.n G.c] w (BoolEnds true w) := by
  obtain ⟨A, n, c⟩ := F
  obtain ⟨A', n', c'⟩ := G
  have hl := h.len
  have hl' := h'.len
  simp only at hl hl' ⊢
  obtain rfl : n' = n := by omega
  have hn : n' ≤ 1000000 := by omega
  have HL := Lib.hid hl
  have HI := Lib.hid h.is
  have HI' := Lib.hid h'.is
  clear h h' hl hl' hm
  go_enter Try.func20, Try.ntmps20
  go_wp2_with fail
  go_loopw [5] (fun vk wr => ∃ k : Nat, k ≤ n' ∧ vk = .int .i64 (k : Int) ∧ Below w.heap.size w wr) (fun vk _ => n' - (intOf vk).toNat)
  case atStart => exact ⟨0, Nat.zero_le _, rfl, Below.refl _ _⟩
  case round =>
    obtain ⟨k, hk, rfl, hbel⟩ := hrel
    by_cases hkn : k < n'
    · obtain ⟨x, hx⟩ : ∃ x, xs[k]? = some x := ⟨_, List.getElem?_eq_getElem (by rw [HL.out]; exact hkn)⟩
      obtain ⟨b, o, hA, hb, hc⟩ := (HI.out.up hbel).two hx
      obtain ⟨b', o', hA', hb', hc'⟩ := (HI'.out.up hbel).two hx
      subst hA
      subst hA'
      clear hx
      have hkI : (k : Int) < (n' : Int) := by omega
      have hk0 : (0 : Int) ≤ (k : Int) := by omega
      go_wp2_with fail
      go_quiet (fail)
      go_wp2
      refine ⟨⟨k + 1, by omega, by go_num, below_drewN hbel _⟩, by simp [intOf]; omega⟩
    · have : k = n' := by omega
      subst this
      go_wp2
      go_ret
      exact ⟨rfl, hbel⟩

set_option maxRecDepth 100000 in
set_option maxHeartbeats 2000000 in
theorem few_any (W : Wl) (S : Nat → Sli) (w : World) (h : At w W S) (hbig : manyN W ≤ 9007199254740992) : Calls Try.prog 8 #[wv W.now S] w (BoolEnds (decide (manyN W ≤ 100)) w) := by
  obtain ⟨now, hn⟩ : ∃ now, W.now = now := ⟨_, rfl⟩
  rw [hn]
  unfold wv
  go_enter Try.func8, Try.ntmps8
  go_wp2_with fail
  go_loopw [3, 4] (fun vn vi wr => ∃ i : Nat, i ≤ 8 ∧ vi = .int .i64 (i : Int) ∧ vn = .int .i64 (manyTo W i : Int) ∧ Box wr w.heap.size 25 (wcs now S) ∧ Below w.heap.size w wr) (fun _ vi _ => 8 - (intOf vi).toNat)
  case atStart => exact ⟨0, by omega, rfl, rfl, Box.new _ _ _, ba1 _ _⟩
  case round =>
    obtain ⟨i, hi, rfl, rfl, hbox, hbel⟩ := hrel
    by_cases hlt : i < 8
    · have hc := hbox.slot hlt
      have hl := h.len i hlt
      have hm : manyTo W i + (S i).n ≤ 9007199254740992 := by
        have h1 := many_le W (show i + 1 ≤ 8 by omega)
        have h2 : manyTo W (i + 1) = manyTo W i + (W.sl i).length := rfl
        unfold manyN at hbig
        omega
      have HT : Hid (manyTo W (i + 1) = manyTo W i + (S i).n) := Lib.hid (by rw [← hl]; rfl)
      clear hl
      go_wp2
      refine ⟨⟨i + 1, by omega, by go_num, by rw [HT.out]; go_num, hbox, hbel⟩, by simp [intOf]; omega⟩
    · have : i = 8 := by omega
      subst this
      go_wp2
      go_ret
      exact ⟨ret_bool (by unfold manyN; simp; omega), hbel⟩

end Go.Proofs.Ytncbfkoldllbpaa
