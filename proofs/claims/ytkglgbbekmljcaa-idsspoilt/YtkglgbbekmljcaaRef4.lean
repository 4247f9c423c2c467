/-
  The walk of the document's own Give.
-/
import Derived.Test.YtkglgbbekmljcaaRef2
import Derived.Test.YtkglgbbekmljcaaGive2
import Derived.IntWalk
namespace Go.Proofs.Ytkglgbbekmljcaa
open Go.RowKit

section
variable {Ag Ab Af : Option Addr} {N cg M cb F cf : Nat} {T : Tb} {w : World}

/-- the slot is appended to Free -/
theorem gv_fin25 {W w1 : World} {B p : Nat} {x : Int} {v' : Value} {o : Obj} (h : Own0 W B T Ag N cg Ab M cb Af F cf) (hb : Box W p 25 #[.slice Ag N cg, .slice Ab M cb, .slice Af F cf])
    (hown : w1.ownsRow B 3 1 v' (F + 1) (T.free.map (Value.int .i64) ++ [.int .i64 x])) (hgrow : (W.alloc o).grownBy w1 (Value.slice Af F cf).ownBlock) (hloc : v'.ownBlock = (Value.slice Af F cf).ownBlock ∨ v'.ownBlock = some (W.alloc o).heap.size) (hB : B ≤ W.heap.size) :
    ∃ Af' cf', v' = .slice Af' (F + 1) cf' ∧ Box w1 p 25 #[.slice Ag N cg, .slice Ab M cb, .slice Af F cf] ∧ RowT w1 B ⟨T.gens, T.busy, T.free ++ [x]⟩ Ag N cg Ab M cb Af' (F + 1) cf' ∧ Below B W w1 := by
  obtain ⟨Af', cf', rfl⟩ := ownsRow_slice hown
  have hblk : ∀ j, j < W.heap.size → (∀ q, Af = some q → q.block ≠ j) → w1.heap[j]? = W.heap[j]? := by
    intro j hj hne
    refine (hgrow.block j (by simp; omega) ?_).trans (Below.heap_alloc W o j hj)
    intro e
    cases Af with
    | none => cases e
    | some q =>
      have e' : j = q.block := by injection e
      exact hne q rfl e'.symm
  have hR := h.row
  refine ⟨Af', cf', rfl, ?_, ⟨?_, ?_, ?_, ?_⟩, ?_⟩
  · exact (hblk p hb.lt (hR.f.ne hb (by decide))).trans hb
  · exact hR.g.keep fun q hq => hblk _ (hR.g.blk q hq).2 (fun q' hq' e => h.d _ _ hq hq' e.symm)
  · exact hR.b.keep fun q hq => hblk _ (hR.b.blk q hq).2 (fun q' hq' => hR.f.ne2 hR.b (by decide) _ _ hq' hq)
  · have := Row.of_own hown
    simpa using this
  · intro q q' hq hq'
    subst hq'
    have hq1 := (hR.g.blk q hq).2
    rcases hloc with hl | hl
    · cases hAf : Af with
      | none => rw [hAf] at hl; cases hl
      | some a =>
        rw [hAf] at hl
        have e' : q'.block = a.block := by injection hl
        rw [e']
        exact h.d _ _ hq hAf
    · have e' : q'.block = (W.alloc o).heap.size := by injection hl
      simp at e'
      omega
  · refine Below.grown ((Below.refl B W).alloc hB o) hgrow (by simp; omega) ?_
    intro j hj
    cases hAf : Af with
    | none => rw [hAf] at hj; cases hj
    | some a =>
      rw [hAf] at hj
      have e' : a.block = j := by injection hj
      have := (hR.f.blk a hAf).1
      omega

set_option maxRecDepth 100000 in
set_option maxHeartbeats 4000000 in
theorem rgive_any (h : At w T Ag N cg Ab M cb Af F cf) (id : Int) (hid : id ≤ 9223372036854775807) :
    Calls Try.prog 18 #[tv Ag N cg Ab M cb Af F cf, .int .i64 id] w (GiveEnds (giveT T id) w) := by
  have HH := Lib.hid h
  clear h
  unfold tv
  go_enter Try.func18, Try.ntmps18
  go_wp2_with fail
  refine (rright_any (HH.out.up (ba2 _ _ _))).mono ?_
  rintro e w1 ⟨rfl, hb1⟩
  have a0 := ((Box.new w 25 #[.slice Ag N cg, .slice Ab M cb, .slice Af F cf]).alloc (.cells #[.slice none 0 0, .slice none 0 0, .slice none 0 0] 25)).up hb1
  have a1 := (Box.mk' (w.alloc (.cells #[.slice Ag N cg, .slice Ab M cb, .slice Af F cf] 25)) 25 #[.slice none 0 0, .slice none 0 0, .slice none 0 0] (w.heap.size + 1) (by simp)).up hb1
  have hw1 := bon (ba2 w _ _) hb1
  clear hb1
  obtain ⟨⟨c0, c1, c2⟩, _⟩ := a0.three
  have hs1 : w.heap.size + 1 < w1.heap.size := a1.lt
  cases hok : okT T with
  | false =>
    have HE : Hid (giveT T id = (T, 1)) := Lib.hid (by simp [giveT, hok])
    clear hok
    go_wp2_with fail
    refine (own_any (HH.out.up hw1)).mono ?_
    rintro e w2 ⟨AG, cG, AB, cB, AF, cF, rfl, ho, hb2⟩
    have x1 := a1.up hb2
    have HL := Lib.hid (last3 (ho.row.mono (B' := w.heap.size) (by omega)) x1 (bon hw1 hb2) (by omega) (.slice AG N cG) (.slice AB M cB) (.slice AF F cF))
    obtain ⟨⟨d0, d1, d2⟩, e0, e1, e2⟩ := x1.three
    clear ho hb2 c0 c1 c2
    go_wp2
    refine bodyPost_ret (v := .tuple #[tv AG N cG AB M cB AF F cF, .int .i64 1]) (by simp [results, Try.results18, go_sem, d0, d1, d2]) rfl ?_
    rw [HE.out]
    exact ⟨AG, N, cG, AB, M, cB, AF, F, cF, rfl, HL.out.1, HL.out.2⟩
  | true =>
    have HK := Lib.hid hok
    clear hok
    go_wp2_with fail
    refine (rhas_any (HH.out.up hw1) id hid).mono ?_
    rintro e w2 ⟨rfl, hb2⟩
    have y0 := a0.up hb2
    have y1 := a1.up hb2
    have hw2 := bon hw1 hb2
    have hs2 := hb2.size
    clear a0 a1 hw1 hb2 c0 c1 c2
    obtain ⟨⟨c0, c1, c2⟩, _⟩ := y0.three
    cases hhas : hasT T id with
    | false =>
      have hB : hasB T id = false := by simpa [hasT, HK.out] using hhas
      have HE : Hid (giveT T id = (T, 5)) := Lib.hid (by simp [giveT, HK.out, hB])
      clear hhas hB
      go_wp2_with fail
      refine (own_any (HH.out.up hw2)).mono ?_
      rintro e w3 ⟨AG, cG, AB, cB, AF, cF, rfl, ho, hb3⟩
      have x1 := y1.up hb3
      have HL := Lib.hid (last3 (ho.row.mono (B' := w.heap.size) (by omega)) x1 (bon hw2 hb3) (by omega) (.slice AG N cG) (.slice AB M cB) (.slice AF F cF))
      obtain ⟨⟨d0, d1, d2⟩, e0, e1, e2⟩ := x1.three
      clear ho hb3 c0 c1 c2
      go_wp2
      refine bodyPost_ret (v := .tuple #[tv AG N cG AB M cB AF F cF, .int .i64 5]) (by simp [results, Try.results18, go_sem, d0, d1, d2]) rfl ?_
      rw [HE.out]
      exact ⟨AG, N, cG, AB, M, cB, AF, F, cF, rfl, HL.out.1, HL.out.2⟩
    | true =>
      have hB : hasB T id = true := by simpa [hasT, HK.out] using hhas
      have hid0 : 0 ≤ id := by simp [hasB] at hB; exact hB.1
      obtain ⟨o1, o2, o3, o4, o5⟩ := ok_true HK.out
      rw [HH.out.lg] at o1 o2 o3 o4
      have hMN : M = N := by rw [← HH.out.lb]; exact o3
      subst hMN
      obtain ⟨k, hk⟩ : ∃ k : Nat, id % (M : Int) = k := Int.eq_ofNat_of_zero_le (Int.emod_nonneg _ (by omega))
      have hkM : k < M := by have := Int.emod_lt_of_pos id (show (0 : Int) < M by omega); omega
      have HE : Hid (giveT T id = if gd T.gens k = 9007199254740992 then (T, 3) else (⟨T.gens.set k (gd T.gens k + 1), T.busy.set k false, T.free ++ [(k : Int)]⟩, 0)) := Lib.hid (by simp only [giveT, HK.out, hB, HH.out.lg, hk, if_true, Int.toNat_natCast])
      obtain ⟨g0, g1⟩ := o4 k hkM
      have hF64 : F ≤ 64 := by
        have := o5.length_eq
        rw [length_nb, HH.out.lf, HH.out.lg] at this
        have := wants_le T.busy M
        omega
      obtain ⟨bg, og, rfl, hbg, hcg⟩ := Is.at (HH.out.up hw2).g (k := k) (by rw [HH.out.lg]; exact hkM)
      clear hhas hB o3 o4 o5
      obtain ⟨G, hG⟩ : ∃ G, gd T.gens k = G := ⟨_, rfl⟩
      rw [hG] at HE hcg g0 g1
      have HG := Lib.hid hG
      clear hG
      by_cases hG5 : G = 9007199254740992
      · subst hG5
        go_wp2_with fail
        refine (own_any (HH.out.up hw2)).mono ?_
        rintro e w3 ⟨AG, cG, AB, cB, AF, cF, rfl, ho, hb3⟩
        have x1 := y1.up hb3
        have HL := Lib.hid (last3 (ho.row.mono (B' := w.heap.size) (by omega)) x1 (bon hw2 hb3) (by omega) (.slice AG M cG) (.slice AB M cB) (.slice AF F cF))
        obtain ⟨⟨d0, d1, d2⟩, e0, e1, e2⟩ := x1.three
        clear ho hb3 c0 c1 c2
        go_wp2
        refine bodyPost_ret (v := .tuple #[tv AG M cG AB M cB AF F cF, .int .i64 3]) (by simp [results, Try.results18, go_sem, d0, d1, d2]) rfl ?_
        rw [HE.out, if_pos trivial]
        exact ⟨AG, M, cG, AB, M, cB, AF, F, cF, rfl, HL.out.1, HL.out.2⟩
      · go_wp2_with fail
        refine (own_any (HH.out.up hw2)).mono ?_
        rintro e w3 ⟨AG, cG, AB, cB, AF, cF, rfl, ho, hb3⟩
        have x1 := y1.up hb3
        have hw3 := bon hw2 hb3
        have hs3 := hb3.size
        obtain ⟨gg, rfl, hgg, hgg', hcgg⟩ := own_at ho.g (by omega)
        obtain ⟨gb, rfl, hgb, hgb', hcbb⟩ := own_at ho.b (by omega)
        have hne3 : gg ≠ gb := own_ne ho.g ho.b (by decide) _ _ rfl rfl
        obtain ⟨hbk, hbkf⟩ := hcbb k (by omega)
        obtain ⟨hgk, hgkf⟩ := hcgg k (by omega)
        have hgk' : w3.cell? ⟨gg, k, none⟩ = some (.int .i64 G) := by
          have hl : k < T.gens.length := by rw [HH.out.lg]; exact hkM
          rw [hgk, List.getElem?_map, List.getElem?_eq_getElem hl, ← HG.out, gd_eq hl]
          rfl
        have hbk' : w3.cell? ⟨gb, k, none⟩ = some (.bool (bd T.busy k)) := by
          have hl : k < T.busy.length := by rw [HH.out.lb]; exact hkM
          rw [hbk, List.getElem?_map, List.getElem?_eq_getElem hl]
          simp [bd, List.getElem?_eq_getElem hl]
        have n1 : ¬ gb = w3.heap.size := by omega
        have n2 : ¬ gg = w3.heap.size := by omega
        have n3 : ¬ gb = gg := fun e => hne3 e.symm
        have hO1 := gv_fin1 (k := k) (x := G + 1) ho
        have sz : ((w3.setCell ⟨gb, k, none⟩ (.bool false)).setCell ⟨gg, k, none⟩ (.int .i64 (G + 1))).heap.size = w3.heap.size := by simp [World.setCell]
        have bA := Box.mk' ((w3.setCell ⟨gb, k, none⟩ (.bool false)).setCell ⟨gg, k, none⟩ (.int .i64 (G + 1))) 25 #[.slice (some ⟨gg, 0, none⟩) M cG, .slice (some ⟨gb, 0, none⟩) M cB, .slice AF F cF] w3.heap.size sz
        have bR := ((x1.far (p := ⟨gb, k, none⟩) (show w.heap.size + 1 ≠ gb by omega) (.bool false)).far (p := ⟨gg, k, none⟩) (show w.heap.size + 1 ≠ gg by omega) (.int .i64 (G + 1))).alloc (.cells #[.slice (some ⟨gg, 0, none⟩) M cG, .slice (some ⟨gb, 0, none⟩) M cB, .slice AF F cF] 25)
        have hW5 : Below w.heap.size w (((w3.setCell ⟨gb, k, none⟩ (.bool false)).setCell ⟨gg, k, none⟩ (.int .i64 (G + 1))).alloc (.cells #[.slice (some ⟨gg, 0, none⟩) M cG, .slice (some ⟨gb, 0, none⟩) M cB, .slice AF F cF] 25)) := bon ((hw3.setCell (p := ⟨gb, k, none⟩) (show w.heap.size ≤ gb by omega) _).setCell (p := ⟨gg, k, none⟩) (show w.heap.size ≤ gg by omega) _) (ba1 _ _)
        have HO2 := Lib.hid (hO1.up (ba1 _ (.cells #[.slice (some ⟨gg, 0, none⟩) M cG, .slice (some ⟨gb, 0, none⟩) M cB, .slice AF F cF] 25)))
        have HSZ := Lib.hid (show w2.heap.size ≤ (((w3.setCell ⟨gb, k, none⟩ (.bool false)).setCell ⟨gg, k, none⟩ (.int .i64 (G + 1))).alloc (.cells #[.slice (some ⟨gg, 0, none⟩) M cG, .slice (some ⟨gb, 0, none⟩) M cB, .slice AF F cF] 25)).heap.size by rw [World.size_alloc, sz]; omega)
        have HBA := Lib.hid bA
        have HBR := Lib.hid bR
        have HW5 := Lib.hid hW5
        clear ho hb3 c0 c1 c2 hcgg hcbb hbk hgk hO1 bA bR hW5 x1 y0 y1 hcg
        have hRlt : w.heap.size + 1 < w2.heap.size := by omega
        obtain ⟨i0, hi, hz0, hz1, hz2⟩ := info_parts info3
        go_wp2_with (at_builtin; refine wpList_append_own_at _ rfl _ _ 22 rfl w2.heap.size 3 i0 (.int .i64 0) 1 8 Try.underlying22 hi hz0 hz1 hz2 rfl (by decide) _ _ _ rfl (own_up HO2.out.f (ba1 _ _)) ⟨w3.heap.size + 1, 0, none⟩ 1 1 [.int .i64 (k : Int)] rfl rfl ?hn ?ho ?hm ?hy ?hbs ?_; rotate_right; intro v' w6 hown hgrow _ hloc; obtain ⟨AF', cF', rfl, hbx, hrx, hbl⟩ := gv_fin25 HO2.out HBA.out hown hgrow hloc HSZ.out; obtain ⟨⟨u0, u1, u2⟩, uf0, uf1, uf2⟩ := hbx.three; have xR := Box.below HBR.out hbl hRlt; obtain ⟨⟨v0, v1, v2⟩, vf0, vf1, vf2⟩ := xR.three; clear hown hgrow hloc)
        case hn =>
          have hsz : (((w3.setCell ⟨gb, k, none⟩ (.bool false)).setCell ⟨gg, k, none⟩ (.int .i64 (G + 1))).alloc (.cells #[.slice (some ⟨gg, 0, none⟩) M cG, .slice (some ⟨gb, 0, none⟩) M cB, .slice AF F cF] 25)).heap.size = w3.heap.size + 1 := by rw [World.size_alloc, sz]
          rw [← hsz]
          exact cell_one_new _ _ _
        case ho => exact one_iv [(k : Int)]
        case hm => unfold maxLen; omega
        case hy => omega
        case hbs => rw [World.size_alloc]; exact Nat.le_succ_of_le HSZ.out
        have hRp : w.heap.size + 1 ≠ w3.heap.size := by omega
        have q1 := hrx.farT hbx (by decide) (by decide) 2 (.slice AF' (F + 1) cF')
        have q2 := xR.far (p := ⟨w3.heap.size, 2, none⟩) hRp (.slice AF' (F + 1) cF')
        have q3 : Below w.heap.size w (w6.setCell ⟨w3.heap.size, 2, none⟩ (.slice AF' (F + 1) cF')) := (HW5.out.trans (hbl.mono (by omega))).setCell (p := ⟨w3.heap.size, 2, none⟩) (show w.heap.size ≤ w3.heap.size by omega) _
        have HL := Lib.hid (last3 (q1.mono (B' := w.heap.size) (by omega)) q2 q3 (by omega) (.slice (some ⟨gg, 0, none⟩) M cG) (.slice (some ⟨gb, 0, none⟩) M cB) (.slice AF' (F + 1) cF'))
        refine bodyPost_ret (v := .tuple #[tv (some ⟨gg, 0, none⟩) M cG (some ⟨gb, 0, none⟩) M cB AF' (F + 1) cF', .int .i64 0]) (by simp [results, Try.results18, go_sem, v0, v1, v2]) rfl ?_
        rw [HE.out, if_neg hG5]
        exact ⟨_, M, cG, _, M, cB, AF', F + 1, cF', rfl, HL.out.1, HL.out.2⟩

end
end Go.Proofs.Ytkglgbbekmljcaa
