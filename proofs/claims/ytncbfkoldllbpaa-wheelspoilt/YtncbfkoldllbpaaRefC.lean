/-
  The walk of the document's own own.
-/
import Derived.Test.YtncbfkoldllbpaaOwn
namespace Go.Proofs.Ytncbfkoldllbpaa
open Go.RowKit

/-- what own hands back -/
def OwnEnds (W : Wl) (w : World) (e : Ending) (w' : World) : Prop :=
  ∃ S, e = .returned (wv W.now S) ∧ Own8 w' w.heap.size W S ∧ Below w.heap.size w w'

/-- another slice in a slot -/
def putS (S : Nat → Sli) (i : Nat) (s : Sli) : Nat → Sli := fun j => if j = i then s else S j
theorem putS_same (S : Nat → Sli) (i : Nat) (s : Sli) : putS S i s i = s := by simp [putS]
theorem putS_other (S : Nat → Sli) {i j : Nat} (h : j ≠ i) (s : Sli) : putS S i s j = S j := by simp [putS, h]
theorem wcs_put {now : Int} {S : Nat → Sli} {i : Nat} (h : i < 8) (s : Sli) : (wcs now S).setIfInBounds (1 + i) (.slice s.A s.n s.c) = wcs now (putS S i s) := by
  rcases (show i = 0 ∨ i = 1 ∨ i = 2 ∨ i = 3 ∨ i = 4 ∨ i = 5 ∨ i = 6 ∨ i = 7 by omega) with rfl | rfl | rfl | rfl | rfl | rfl | rfl | rfl <;> rfl
theorem Box.putS {w : World} {g : Nat} {now : Int} {S : Nat → Sli} (h : Box w g 25 (wcs now S)) {i : Nat} (hi : i < 8) (A : Option Addr) (n c : Nat) : Box (w.setCell ⟨g, 1 + i, none⟩ (.slice A n c)) g 25 (wcs now (putS S i ⟨A, n, c⟩)) := by
  rw [← wcs_put hi]
  exact h.set _ _

set_option maxRecDepth 100000 in
set_option maxHeartbeats 4000000 in
theorem own_any (W : Wl) (S : Nat → Sli) (w : World) (h : At w W S) (hf : manyN W ≤ 1000000) : Calls Try.prog 31 #[wv W.now S] w (OwnEnds W w) := by
  obtain ⟨i0, hi, hz0, hz1, hz2⟩ := info_parts info34
  obtain ⟨now, hn⟩ : ∃ now, W.now = now := ⟨_, rfl⟩
  have HN := Lib.hid hn
  rw [hn]
  clear hn
  have HH := Lib.hid h
  clear h
  unfold wv
  go_enter Try.func31, Try.ntmps31
  go_wp2_with fail
  go_loopw [3] (fun vi wr => ∃ (i : Nat) (T : Nat → Sli), i ≤ 8 ∧ vi = .int .i64 (i : Int) ∧ Box wr w.heap.size 25 (wcs now T) ∧ Box wr (w.heap.size + 1) 25 (wcs 0 (fun _ => ⟨none, 0, 0⟩)) ∧ Hid ((∀ j, i ≤ j → T j = S j) ∧ (∀ j, j < i → TRow wr w.heap.size (T j) (W.sl j)) ∧ (∀ j l, j < i → l < i → j ≠ l → ∀ p q, (T j).A = some p → (T l).A = some q → p.block ≠ q.block)) ∧ Below w.heap.size w wr) (fun vi _ => 8 - (intOf vi).toNat)
  case atStart =>
    refine ⟨0, S, by omega, rfl, (Box.new w 25 _).alloc _, Box.mk' _ 25 _ _ (by simp), Lib.hid ⟨fun j _ => rfl, fun j hj => by omega, fun j l hj => by omega⟩, ba2 _ _ _⟩
  case round =>
    obtain ⟨i, T, hi8, rfl, hbox, hres, HI, hbel⟩ := hrel
    by_cases hlt : i < 8
    · have hc := hbox.slot hlt
      rw [HI.out.1 i (Nat.le_refl _)] at hc
      have hfz := hbox.f (1 + i)
      have hlen := HH.out.len i hlt
      have hn1 : (S i).n ≤ 1000000 := by
        have := len_le W hlt
        omega
      have HSrc := Lib.hid (((HH.out.ts i hlt).up hbel).src hlen (HH.out.cap i hlt))
      clear hlen
      go_wp2_with (at_builtin; refine wpList_app _ rfl _ _ 22 rfl w.heap.size 34 i0 _ 2 16 (by decide) Try.underlying22 hi hz0 hz1 hz2 rfl _ 0 [] rfl (World.ownsRow_nil _ _ _ _) (S i).A (S i).n (S i).c (tmcs (W.sl i)) rfl HSrc.out (tmcs_one _) ?_ ?_ ?_ (S i).n (Nat.zero_add _) ?_; (unfold maxLen; omega); omega; exact hbel.size; intro A' c' w' h1 h2 h3; refine Hid.out ?_)
      have hg : wr.grownBy w' none := h2
      have hbk : (Value.slice A' (S i).n c').ownBlock = none ∨ (Value.slice A' (S i).n c').ownBlock = some wr.heap.size := h3
      have hrow : TRow w' w.heap.size ⟨A', (S i).n, c'⟩ (W.sl i) := h1
      clear h1 h2 h3 hc hfz HSrc
      have hb := grown_none hg
      have hbox1 := hbox.up hb
      have hres1 := (hres.up hb).far (p := ⟨w.heap.size, 1 + i, none⟩) (by simp) (.slice A' (S i).n c')
      have hc := hbox1.slot hlt
      have hfz := hbox1.f (1 + i)
      have HB := Lib.hid ((bon hbel hb).setCell (p := ⟨w.heap.size, 1 + i, none⟩) (Nat.le_refl _) (.slice A' (S i).n c'))
      have HI2 : Hid ((∀ j, i + 1 ≤ j → putS T i ⟨A', (S i).n, c'⟩ j = S j) ∧ (∀ j, j < i + 1 → TRow (w'.setCell ⟨w.heap.size, 1 + i, none⟩ (.slice A' (S i).n c')) w.heap.size (putS T i ⟨A', (S i).n, c'⟩ j) (W.sl j)) ∧ (∀ j l, j < i + 1 → l < i + 1 → j ≠ l → ∀ p q, (putS T i ⟨A', (S i).n, c'⟩ j).A = some p → (putS T i ⟨A', (S i).n, c'⟩ l).A = some q → p.block ≠ q.block)) := by
        refine Lib.hid ⟨fun j hj => ?_, fun j hj => ?_, ?_⟩
        · rw [putS_other _ (by omega)]
          exact HI.out.1 j (by omega)
        · by_cases hji : j = i
          · subst hji
            rw [putS_same]
            exact hrow.farB hbox1 (by decide) _ _
          · rw [putS_other _ hji]
            exact ((HI.out.2.1 j (by omega)).up hb).farB hbox1 (by decide) _ _
        · have hnew : ∀ q, A' = some q → q.block = wr.heap.size := by
            intro q hq
            subst hq
            rcases hbk with e | e
            · cases e
            · exact Option.some.inj e
          intro j l hj hl hjl p q hp hq
          by_cases hji : j = i
          · subst hji
            rw [putS_same] at hp
            rw [putS_other _ (Ne.symm hjl)] at hq
            have h1 := hnew p hp
            have h2 := ((HI.out.2.1 l (by omega)).blk q hq).2.1
            omega
          · rw [putS_other _ hji] at hp
            have h2 := ((HI.out.2.1 j (by omega)).blk p hp).2.1
            by_cases hli : l = i
            · subst hli
              rw [putS_same] at hq
              have h1 := hnew q hq
              omega
            · rw [putS_other _ hli] at hq
              exact HI.out.2.2 j l (by omega) (by omega) hjl p q hp hq
      have hbox2 := hbox1.putS hlt A' (S i).n c'
      clear hbk hrow hg HI hres hbox
      refine Lib.hid ?_
      go_wp2
      refine ⟨⟨i + 1, putS T i ⟨A', (S i).n, c'⟩, by omega, by go_num, hbox2, hres1, HI2, HB.out⟩, by simp [intOf]; omega⟩
    · have : i = 8 := by omega
      subst this
      obtain ⟨c0, c1, c2, c3, c4, c5, c6, c7, c8⟩ := hbox.nine
      obtain ⟨d0, d1, d2, d3, d4, d5, d6, d7, d8⟩ := hres.nine
      have f0 := hres.f 0
      have f1 := hres.f 1
      have f2 := hres.f 2
      have f3 := hres.f 3
      have f4 := hres.f 4
      have f5 := hres.f 5
      have f6 := hres.f 6
      have f7 := hres.f 7
      have f8 := hres.f 8
      have hT : Own8 wr w.heap.size W T := ⟨HI.out.2.1, HI.out.2.2⟩
      have HO := Lib.hid (hT.far9 hres (by decide) (.int .i64 now) (.slice (T 0).A (T 0).n (T 0).c) (.slice (T 1).A (T 1).n (T 1).c) (.slice (T 2).A (T 2).n (T 2).c) (.slice (T 3).A (T 3).n (T 3).c) (.slice (T 4).A (T 4).n (T 4).c) (.slice (T 5).A (T 5).n (T 5).c) (.slice (T 6).A (T 6).n (T 6).c) (.slice (T 7).A (T 7).n (T 7).c))
      have HB := Lib.hid (below_set9 hbel (Nat.le_succ _) (.int .i64 now) (.slice (T 0).A (T 0).n (T 0).c) (.slice (T 1).A (T 1).n (T 1).c) (.slice (T 2).A (T 2).n (T 2).c) (.slice (T 3).A (T 3).n (T 3).c) (.slice (T 4).A (T 4).n (T 4).c) (.slice (T 5).A (T 5).n (T 5).c) (.slice (T 6).A (T 6).n (T 6).c) (.slice (T 7).A (T 7).n (T 7).c))
      have hend : Box _ (w.heap.size + 1) 25 (wcs now T) := hres.set9 (.int .i64 now) (.slice (T 0).A (T 0).n (T 0).c) (.slice (T 1).A (T 1).n (T 1).c) (.slice (T 2).A (T 2).n (T 2).c) (.slice (T 3).A (T 3).n (T 3).c) (.slice (T 4).A (T 4).n (T 4).c) (.slice (T 5).A (T 5).n (T 5).c) (.slice (T 6).A (T 6).n (T 6).c) (.slice (T 7).A (T 7).n (T 7).c)
      have HEnd := Lib.hid hend.nine
      clear hend hT HI
      go_wp2
      obtain ⟨q0, q1, q2, q3, q4, q5, q6, q7, q8⟩ := HEnd.out
      refine bodyPost_ret (v := wv now T) (by simp [results, Try.results31, go_sem, q0, q1, q2, q3, q4, q5, q6, q7, q8]) rfl ?_
      exact ⟨T, by rw [HN.out], HO.out, HB.out⟩

end Go.Proofs.Ytncbfkoldllbpaa
