/-
  The walk of ids.Give.
-/
import Derived.Test.YtkglgbbekmljcaaGive
namespace Go.Proofs.Ytkglgbbekmljcaa
open Go.RowKit

theorem gvS {W X w' : World} {a0 a1 a2 a3 : Addr} {v0 v1 v2 v3 : Value} (hb : Below X.heap.size X w')
    (h : Below W.heap.size W X ∧ X.cell? a0 = some v0 ∧ X.cell? a1 = some v1 ∧ X.cell? a2 = some v2 ∧ X.cell? a3 = some v3) :
    Below W.heap.size W w' ∧ w'.cell? a0 = some v0 ∧ w'.cell? a1 = some v1 ∧ w'.cell? a2 = some v2 ∧ w'.cell? a3 = some v3 :=
  ⟨bon h.1 hb, cell_up hb h.2.1, cell_up hb h.2.2.1, cell_up hb h.2.2.2.1, cell_up hb h.2.2.2.2⟩

section
variable {Ag Ab Af : Option Addr} {N cg M cb F cf : Nat} {T : Tb} {w : World}

set_option maxRecDepth 100000 in
set_option maxHeartbeats 4000000 in
theorem give_any (h : At w T Ag N cg Ab M cb Af F cf) (id : Int) (hid : id ≤ 9223372036854775807) :
    Calls Try.prog 14 #[tv Ag N cg Ab M cb Af F cf, .int .i64 id] w (GiveEnds (giveT T id) w) := by
  have HH := Lib.hid h
  clear h
  unfold tv
  go_enter Try.func14, Try.ntmps14
  go_wp2_with fail
  refine (change_any (HH.out.up (ba2 _ _ _))).mono ?_
  rintro e w1 ⟨p, AG, cG, AB, cB, AF, cF, rfl, hp, hbp, ho, hb1⟩
  have b0 := ((Box.new w 25 #[.slice Ag N cg, .slice Ab M cb, .slice Af F cf]).alloc (.cells #[.slice none 0 0, .slice none 0 0, .slice none 0 0] 25)).up hb1
  have b1 := (Box.mk' (w.alloc (.cells #[.slice Ag N cg, .slice Ab M cb, .slice Af F cf] 25)) 25 #[.slice none 0 0, .slice none 0 0, .slice none 0 0] (w.heap.size + 1) (by simp)).up hb1
  have hw1 := bon (ba2 w _ _) hb1
  simp only [World.size_alloc] at hp ho
  obtain ⟨⟨c0, c1, c2⟩, _⟩ := b0.three
  go_wp2_with fail
  refine (right_any (HH.out.up hw1)).mono ?_
  rintro e w2 ⟨rfl, hb2⟩
  have a1 := b1.up hb2
  have hbp2 := hbp.up hb2
  have ho2 := ho.up hb2
  have hw2 := bon hw1 hb2
  clear c0 c1 c2 b0 b1 hb1 hb2 hbp ho hw1
  obtain ⟨⟨d0, d1, d2⟩, e0, e1, e2⟩ := a1.three
  obtain ⟨⟨q0, q1, q2⟩, _⟩ := hbp2.three
  have hne : w.heap.size + 1 ≠ p := by omega
  have hne' : p ≠ w.heap.size + 1 := by omega
  cases hok : okT T with
  | false =>
    have HE : Hid (giveT T id = (T, 1)) := Lib.hid (by simp [giveT, hok])
    have HL := Lib.hid (last3 (ho2.row.mono (B' := w.heap.size) (by omega)) a1 hw2 (by omega) (.slice AG N cG) (.slice AB M cB) (.slice AF F cF))
    clear hok ho2
    go_wp2
    refine bodyPost_ret (v := .tuple #[tv AG N cG AB M cB AF F cF, .int .i64 1]) (by simp [results, Try.results14, go_sem, d0, d1, d2]) rfl ?_
    rw [HE.out]
    exact ⟨AG, N, cG, AB, M, cB, AF, F, cF, rfl, HL.out.1, HL.out.2⟩
  | true =>
    have HA := Lib.hid (ho2.row.at HH.out.hN HH.out.hM HH.out.hF HH.out.wf)
    have HK := Lib.hid hok
    clear hok
    have HO2 := Lib.hid ho2
    clear ho2
    go_wp2_with fail
    refine (has_any HA.out id hid HK.out).mono ?_
    rintro e w3 ⟨rfl, hb3⟩
    have x1 := a1.up hb3
    have hbp3 := hbp2.up hb3
    have ho3 := HO2.out.up hb3
    have hw3 := bon hw2 hb3
    clear d0 d1 d2 e0 e1 e2 q0 q1 q2 HO2 a1 hbp2 hw2 HA
    have HA := Lib.hid (ho3.row.at HH.out.hN HH.out.hM HH.out.hF HH.out.wf)
    clear hb3
    obtain ⟨⟨d0, d1, d2⟩, e0, e1, e2⟩ := x1.three
    obtain ⟨⟨q0, q1, q2⟩, _⟩ := hbp3.three
    cases hhas : hasB T id with
    | false =>
      have HE : Hid (giveT T id = (T, 5)) := Lib.hid (by simp [giveT, HK.out, hhas])
      have HL := Lib.hid (last3 (ho3.row.mono (B' := w.heap.size) (by omega)) x1 hw3 (by omega) (.slice AG N cG) (.slice AB M cB) (.slice AF F cF))
      clear hhas ho3
      go_wp2
      refine bodyPost_ret (v := .tuple #[tv AG N cG AB M cB AF F cF, .int .i64 5]) (by simp [results, Try.results14, go_sem, d0, d1, d2]) rfl ?_
      rw [HE.out]
      exact ⟨AG, N, cG, AB, M, cB, AF, F, cF, rfl, HL.out.1, HL.out.2⟩
    | true =>
      have hid0 : 0 ≤ id := by simp [hasB] at hhas; exact hhas.1
      obtain ⟨o1, o2, o3, o4, _⟩ := ok_true HK.out
      have lg := HH.out.lg
      rw [lg] at o1 o2 o3 o4
      obtain ⟨k, hk⟩ : ∃ k : Nat, id % (N : Int) = k := Int.eq_ofNat_of_zero_le (Int.emod_nonneg _ (by omega))
      have hkN : k < N := by have := Int.emod_lt_of_pos id (show (0 : Int) < N by omega); omega
      obtain ⟨gg, rfl, hgg, hgg', hcg⟩ := own_at ho3.g (by omega)
      have hgk : w3.cell? ⟨gg, k, none⟩ = some (.int .i64 (gd T.gens k)) := by
        rw [(hcg k hkN).1, List.getElem?_map, List.getElem?_eq_getElem (by omega)]
        simp [gd, List.getElem?_eq_getElem (show k < T.gens.length by omega)]
      have HX := Lib.hid x1
      have HE : Hid (giveT T id = if gd T.gens k = 9007199254740992 then (T, 3) else (⟨T.gens.set k (gd T.gens k + 1), T.busy.set k false, T.free ++ [(k : Int)]⟩, 0)) := Lib.hid (by simp only [giveT, HK.out, hhas, lg, hk, if_true, Int.toNat_natCast])
      have HO3 := Lib.hid ho3
      have HSZ : Hid (w.heap.size + 1 + 1 ≤ w3.heap.size) := Lib.hid (by have := hbp3.lt; omega)
      clear hcg lg o3 o4 hhas ho3
      obtain ⟨G, hG⟩ : ∃ G, gd T.gens k = G := ⟨_, rfl⟩
      rw [hG] at HE hgk
      have HSL : Hid (∀ W, Below w3.heap.size w3 W → Calls Try.prog 25 #[.agg #[.slice (some ⟨gg, 0, none⟩) N cG, .slice AB M cB, .slice AF F cF], .int .i64 id] W fun e w' => e = .returned (.int .i64 (k : Int)) ∧ Below W.heap.size W w') :=
        Lib.hid fun W hb => by
          have := slot_any (HA.out.up hb) id (by omega) hid0
          rw [hk] at this
          exact this
      go_wp2_with fail
      go_region_held3 (fun w' => Below w3.heap.size w3 w' ∧ w'.cell? ⟨p, 0, none⟩ = some (.slice (some ⟨gg, 0, none⟩) N cG) ∧ w'.cell? ⟨p, 1, none⟩ = some (.slice AB M cB) ∧ w'.cell? ⟨p, 2, none⟩ = some (.slice AF F cF) ∧ w'.cell? ⟨gg, k, none⟩ = some (.int .i64 G))
        (first | exact gvS hbS (by assumption) | exact ⟨(Below.refl _ _).drew, q0, q1, q2, hgk⟩)
        (first | (go_at_call 25; refine (HSL.out _ ?_).mono ?_; (simp only [*]); rintro e wS ⟨rfl, hbS⟩))
      rename_i hHeld
      have hb4 : Below w3.heap.size w3 wS := hHeld.1
      clear hHeld hbS
      have x4 := HX.out.up hb4
      have hbp4 := hbp3.up hb4
      have ho4 := HO3.out.up hb4
      have hw4 := bon hw3 hb4
      clear hb4 HX HO3 hbp3 hw3 d0 d1 d2 e0 e1 e2 q0 q1 q2 x1 hgk HSL HA
      obtain ⟨⟨d0, d1, d2⟩, e0, e1, e2⟩ := x4.three
      obtain ⟨⟨q0, q1, q2⟩, _⟩ := hbp4.three
      by_cases hG5 : G = 9007199254740992
      · subst hG5
        have HL := Lib.hid (last3 (ho4.row.mono (B' := w.heap.size) (by omega)) x4 hw4 (by omega) (.slice (some ⟨gg, 0, none⟩) N cG) (.slice AB M cB) (.slice AF F cF))
        clear ho4
        go_wp2
        refine bodyPost_ret (v := .tuple #[tv (some ⟨gg, 0, none⟩) N cG AB M cB AF F cF, .int .i64 3]) (by simp [results, Try.results14, go_sem, d0, d1, d2]) rfl ?_
        rw [HE.out, if_pos trivial]
        exact ⟨_, N, cG, AB, M, cB, AF, F, cF, rfl, HL.out.1, HL.out.2⟩
      · have HT := Lib.hid (gv_any p (w.heap.size + 1 + 1) k id hbp4 ho4 hp HK.out hid0 hk)
        clear ho4
        go_wp2_with fail
        refine HT.out.mono ?_
        rintro e w5 ⟨⟨v, rfl⟩, AF', cF', hbp5, hr5, hb5⟩
        have x5 := x4.below hb5 (by omega)
        have hw5 : Below w.heap.size w w5 := hw4.trans (hb5.mono (by omega))
        clear d0 d1 d2 e0 e1 e2 q0 q1 q2
        obtain ⟨⟨d0, d1, d2⟩, e0, e1, e2⟩ := x5.three
        obtain ⟨⟨q0, q1, q2⟩, _⟩ := hbp5.three
        rw [hG] at hr5
        have HL := Lib.hid (last3 (hr5.mono (B' := w.heap.size) (by omega)) x5 hw5 (by omega) (.slice (some ⟨gg, 0, none⟩) N cG) (.slice AB M cB) (.slice AF' (F + 1) cF'))
        clear hr5 hb5
        go_wp2
        refine bodyPost_ret (v := .tuple #[tv (some ⟨gg, 0, none⟩) N cG AB M cB AF' (F + 1) cF', .int .i64 0]) (by simp [results, Try.results14, go_sem, d0, d1, d2]) rfl ?_
        rw [HE.out, if_neg hG5]
        exact ⟨_, N, cG, AB, M, cB, AF', F + 1, cF', rfl, HL.out.1, HL.out.2⟩

end
end Go.Proofs.Ytkglgbbekmljcaa
