/-
  The walks of slices.Clone at timers and of the program's own own.
-/
import Derived.Test.YtncbfkoldllbpaaRefF
import Derived.Test.YtncbfkoldllbpaaPa
import Derived.Lib.SliceRun
namespace Go.Proofs.Ytncbfkoldllbpaa
open Go.RowKit

theorem row_zero (w : World) (B : Nat) (hB : B ≤ w.heap.size) : (w.alloc (.cells #[] 34)).ownsRow B 34 2 (.slice (some ⟨w.heap.size, 0, none⟩) 0 0) 0 [] :=
  ⟨rfl, .inr ⟨w.heap.size, 0, #[], rfl, hB, Box.new w 34 #[], Nat.le_refl _, Nat.zero_le _, rfl, rfl⟩⟩

/-- what Clone hands back -/
def CloneEnds (xs : List Tm) (w : World) (e : Ending) (w' : World) : Prop :=
  ∃ s : Sli, e = .returned (.slice s.A s.n s.c) ∧ TRow w' w.heap.size s xs ∧ Below w.heap.size w w'

set_option maxRecDepth 100000 in
set_option maxHeartbeats 2000000 in
theorem clone_any (s : Sli) (xs : List Tm) (w : World) (hl : xs.length = s.n) (hts : Ts w s.A xs) (hcap : s.A = none → s.c = 0) (hn : s.n ≤ 1000000) (hle : s.n ≤ s.c) : Calls Try.prog 34 #[.slice s.A s.n s.c] w (CloneEnds xs w) := by
  obtain ⟨A, n, c⟩ := s
  simp only at hl hts hcap hn hle ⊢
  obtain ⟨i0, hi, hz0, hz1, hz2⟩ := info_parts info34
  cases A with
  | none =>
    have hc := hcap rfl
    subst hc
    have h0 : n = 0 := by omega
    subst h0
    have hx : xs = [] := List.eq_nil_of_length_eq_zero hl
    subst hx
    have he := fun W => Lib.run_eql_slice_nil (P := Try.prog) W 22 34 none 0 0 0 0 Try.underlying22
    go_enter Try.func34, Try.ntmps34
    go_wp2
    go_ret
    exact ⟨⟨none, 0, 0⟩, rfl, World.ownsRow_nil _ _ _ _, Below.refl _ _⟩
  | some ad =>
    have HSrc : Hid (Src (w.alloc (.cells #[] 34)) 2 (some ad) n c (tmcs xs)) := Lib.hid ((hts.up (ba1 w _)).src hl (fun h => by cases h))
    have HZ := Lib.hid (row_zero w w.heap.size (Nat.le_refl _))
    have hBw : w.heap.size ≤ (w.alloc (.cells #[] 34)).heap.size := (ba1 w _).size
    clear hts hl
    have he := fun W => Lib.run_eql_slice_nil (P := Try.prog) W 22 34 (some ad) n c 0 0 Try.underlying22
    go_enter Try.func34, Try.ntmps34
    go_wp2_with (at_builtin; refine wpList_app _ rfl _ _ 22 rfl w.heap.size 34 i0 _ 2 16 (by decide) Try.underlying22 hi hz0 hz1 hz2 rfl (.slice (some ⟨w.heap.size, 0, none⟩) 0 0) 0 [] rfl HZ.out (some ad) n c (tmcs xs) rfl HSrc.out (tmcs_one _) ?_ ?_ hBw n (Nat.zero_add _) ?_; (unfold maxLen; omega); omega; intro A' c' w' h1 h2 h3; refine Hid.out ?_)
    have HB : Hid (Below w.heap.size w w') := Lib.hid (grown_base HZ.out h2 (ba1 w _) (Nat.le_refl _) hBw)
    have HR : Hid (TRow w' w.heap.size ⟨A', n, c'⟩ xs) := Lib.hid h1
    clear h1 h2 h3 HSrc HZ
    refine Lib.hid ?_
    go_wp2
    go_ret
    exact ⟨⟨A', n, c'⟩, rfl, HR.out, HB.out⟩

set_option maxRecDepth 100000 in
set_option maxHeartbeats 4000000 in
theorem pown_any (W : Wl) (S : Nat → Sli) (w : World) (h : At w W S) (hf : manyN W ≤ 1000000) : Calls Try.prog 21 #[wv W.now S] w (OwnEnds W w) := by
  obtain ⟨now, hn⟩ : ∃ now, W.now = now := ⟨_, rfl⟩
  have HN := Lib.hid hn
  rw [hn]
  clear hn
  have HH := Lib.hid h
  clear h
  unfold wv
  go_enter Try.func21, Try.ntmps21
  go_wp2_with fail
  go_loopw [3, 4, 7] (fun v3 v4 vi wr => ∃ (i : Nat) (T : Nat → Sli), i ≤ 8 ∧ vi = .int .i64 (i : Int) ∧ Box wr w.heap.size 25 (wcs now T) ∧ Box wr (w.heap.size + 1) 25 (wcs 0 (fun _ => ⟨none, 0, 0⟩)) ∧ Hid ((∀ j, i ≤ j → T j = S j) ∧ (∀ j, j < i → TRow wr w.heap.size (T j) (W.sl j)) ∧ (∀ j l, j < i → l < i → j ≠ l → ∀ p q, (T j).A = some p → (T l).A = some q → p.block ≠ q.block)) ∧ Below w.heap.size w wr) (fun _ _ vi _ => 8 - (intOf vi).toNat)
  case atStart =>
    refine ⟨0, S, by omega, rfl, (Box.new w 25 _).alloc _, Box.mk' _ 25 _ _ (by simp), Lib.hid ⟨fun j _ => rfl, fun j hj => by omega, fun j l hj => by omega⟩, ba2 _ _ _⟩
  case round =>
    obtain ⟨i, T, hi8, rfl, hbox, hres, HI, hbel⟩ := hrel
    by_cases hlt : i < 8
    · have hx := idx8 S hlt
      have HCl : Hid (Calls Try.prog 34 #[.slice (S i).A (S i).n (S i).c] wr (CloneEnds (W.sl i) wr)) := Lib.hid (clone_any (S i) (W.sl i) wr (HH.out.len i hlt) ((HH.out.ts i hlt).up hbel) (HH.out.cap i hlt) (by
        have := len_le W hlt
        have := HH.out.len i hlt
        omega) (HH.out.le i hlt).1)
      go_wp2_with fail
      refine HCl.out.mono ?_
      rintro e w' ⟨s, rfl, hrow, hb⟩
      obtain ⟨A', n', c'⟩ := s
      simp only
      have hbox1 := hbox.up hb
      have hres1 := (hres.up hb).far (p := ⟨w.heap.size, 1 + i, none⟩) (by simp) (.slice A' n' c')
      have hc := hbox1.slot hlt
      have hfz := hbox1.f (1 + i)
      have HB := Lib.hid ((bon hbel hb).setCell (p := ⟨w.heap.size, 1 + i, none⟩) (Nat.le_refl _) (.slice A' n' c'))
      have HI2 : Hid ((∀ j, i + 1 ≤ j → putS T i ⟨A', n', c'⟩ j = S j) ∧ (∀ j, j < i + 1 → TRow (w'.setCell ⟨w.heap.size, 1 + i, none⟩ (.slice A' n' c')) w.heap.size (putS T i ⟨A', n', c'⟩ j) (W.sl j)) ∧ (∀ j l, j < i + 1 → l < i + 1 → j ≠ l → ∀ p q, (putS T i ⟨A', n', c'⟩ j).A = some p → (putS T i ⟨A', n', c'⟩ l).A = some q → p.block ≠ q.block)) := by
        refine Lib.hid ⟨fun j hj => ?_, fun j hj => ?_, ?_⟩
        · rw [putS_other _ (by omega)]
          exact HI.out.1 j (by omega)
        · by_cases hji : j = i
          · subst hji
            rw [putS_same]
            exact (hrow.mono hbel.size).farB hbox1 (by decide) _ _
          · rw [putS_other _ hji]
            exact ((HI.out.2.1 j (by omega)).up hb).farB hbox1 (by decide) _ _
        · have hnew : ∀ q, A' = some q → wr.heap.size ≤ q.block := fun q hq => (hrow.blk q hq).1
          intro j l hj hl hjl p q hp hq
          by_cases hji : j = i
          · subst hji
            rw [putS_same] at hp
            rw [putS_other _ (Ne.symm hjl)] at hq
            have h1 := hnew p hp
            have h2 := ((HI.out.2.1 l (by omega)).blk q hq).2.1
            omega
          · rw [putS_other _ hji] at hp
            have h2 := ((HI.out.2.1 j (by omega)).blk p hp).2.1
            by_cases hli : l = i
            · subst hli
              rw [putS_same] at hq
              have h1 := hnew q hq
              omega
            · rw [putS_other _ hli] at hq
              exact HI.out.2.2 j l (by omega) (by omega) hjl p q hp hq
      have hbox2 := hbox1.putS hlt A' n' c'
      clear hrow HI hres hbox HCl
      go_wp2
      refine ⟨⟨i + 1, putS T i ⟨A', n', c'⟩, by omega, by go_num, hbox2, hres1, HI2, HB.out⟩, by simp [intOf]; omega⟩
    · have : i = 8 := by omega
      subst this
      obtain ⟨c0, c1, c2, c3, c4, c5, c6, c7, c8⟩ := hbox.nine
      obtain ⟨d0, d1, d2, d3, d4, d5, d6, d7, d8⟩ := hres.nine
      have f0 := hres.f 0
      have f1 := hres.f 1
      have f2 := hres.f 2
      have f3 := hres.f 3
      have f4 := hres.f 4
      have f5 := hres.f 5
      have f6 := hres.f 6
      have f7 := hres.f 7
      have f8 := hres.f 8
      have hT : Own8 wr w.heap.size W T := ⟨HI.out.2.1, HI.out.2.2⟩
      have HO := Lib.hid (hT.far9 hres (by decide) (.int .i64 now) (.slice (T 0).A (T 0).n (T 0).c) (.slice (T 1).A (T 1).n (T 1).c) (.slice (T 2).A (T 2).n (T 2).c) (.slice (T 3).A (T 3).n (T 3).c) (.slice (T 4).A (T 4).n (T 4).c) (.slice (T 5).A (T 5).n (T 5).c) (.slice (T 6).A (T 6).n (T 6).c) (.slice (T 7).A (T 7).n (T 7).c))
      have HB := Lib.hid (below_set9 hbel (Nat.le_succ _) (.int .i64 now) (.slice (T 0).A (T 0).n (T 0).c) (.slice (T 1).A (T 1).n (T 1).c) (.slice (T 2).A (T 2).n (T 2).c) (.slice (T 3).A (T 3).n (T 3).c) (.slice (T 4).A (T 4).n (T 4).c) (.slice (T 5).A (T 5).n (T 5).c) (.slice (T 6).A (T 6).n (T 6).c) (.slice (T 7).A (T 7).n (T 7).c))
      have hend : Box _ (w.heap.size + 1) 25 (wcs now T) := hres.set9 (.int .i64 now) (.slice (T 0).A (T 0).n (T 0).c) (.slice (T 1).A (T 1).n (T 1).c) (.slice (T 2).A (T 2).n (T 2).c) (.slice (T 3).A (T 3).n (T 3).c) (.slice (T 4).A (T 4).n (T 4).c) (.slice (T 5).A (T 5).n (T 5).c) (.slice (T 6).A (T 6).n (T 6).c) (.slice (T 7).A (T 7).n (T 7).c)
      have HEnd := Lib.hid hend.nine
      clear hend hT HI
      go_wp2
      obtain ⟨q0, q1, q2, q3, q4, q5, q6, q7, q8⟩ := HEnd.out
      refine bodyPost_ret (v := wv now T) (by simp [results, Try.results21, go_sem, q0, q1, q2, q3, q4, q5, q6, q7, q8]) rfl ?_
      exact ⟨T, by rw [HN.out], HO.out, HB.out⟩

end Go.Proofs.Ytncbfkoldllbpaa
