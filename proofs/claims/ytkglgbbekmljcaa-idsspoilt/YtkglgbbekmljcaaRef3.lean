/-
  The walk of the document's own Take.
-/
import Derived.Test.YtkglgbbekmljcaaRef2
import Derived.Test.YtkglgbbekmljcaaTake2
import Derived.IntWalk
namespace Go.Proofs.Ytkglgbbekmljcaa
open Go.RowKit

theorem cell_far3 {X : World} {a : Addr} {v : Value} {g : Nat} (h : X.cell? a = some v) (hne : a.block ≠ g) (x y z : Value) : (((X.setCell ⟨g, 0, none⟩ x).setCell ⟨g, 1, none⟩ y).setCell ⟨g, 2, none⟩ z).cell? a = some v := by
  have hh : (((X.setCell ⟨g, 0, none⟩ x).setCell ⟨g, 1, none⟩ y).setCell ⟨g, 2, none⟩ z).heap[a.block]? = X.heap[a.block]? := by
    rw [Below.heap_setCell _ ⟨g, 2, none⟩ _ _ hne, Below.heap_setCell _ ⟨g, 1, none⟩ _ _ hne, Below.heap_setCell _ ⟨g, 0, none⟩ _ _ hne]
  exact (World.cell?_of_block hh).trans h

theorem five {X : World} {a0 a1 a2 a3 a4 : Addr} {v0 v1 v2 v3 v4 : Value} {g : Nat} (n0 : a0.block ≠ g) (n1 : a1.block ≠ g) (n2 : a2.block ≠ g) (n3 : a3.block ≠ g) (n4 : a4.block ≠ g) (x y z : Value)
    (h : X.cell? a0 = some v0 ∧ X.cell? a1 = some v1 ∧ X.cell? a2 = some v2 ∧ X.cell? a3 = some v3 ∧ X.cell? a4 = some v4) :
    (((X.setCell ⟨g, 0, none⟩ x).setCell ⟨g, 1, none⟩ y).setCell ⟨g, 2, none⟩ z).cell? a0 = some v0 ∧ (((X.setCell ⟨g, 0, none⟩ x).setCell ⟨g, 1, none⟩ y).setCell ⟨g, 2, none⟩ z).cell? a1 = some v1 ∧ (((X.setCell ⟨g, 0, none⟩ x).setCell ⟨g, 1, none⟩ y).setCell ⟨g, 2, none⟩ z).cell? a2 = some v2 ∧ (((X.setCell ⟨g, 0, none⟩ x).setCell ⟨g, 1, none⟩ y).setCell ⟨g, 2, none⟩ z).cell? a3 = some v3 ∧ (((X.setCell ⟨g, 0, none⟩ x).setCell ⟨g, 1, none⟩ y).setCell ⟨g, 2, none⟩ z).cell? a4 = some v4 :=
  ⟨cell_far3 h.1 n0 x y z, cell_far3 h.2.1 n1 x y z, cell_far3 h.2.2.1 n2 x y z, cell_far3 h.2.2.2.1 n3 x y z, cell_far3 h.2.2.2.2 n4 x y z⟩

section
variable {Ag Ab Af : Option Addr} {N cg M cb F cf : Nat} {T : Tb} {w : World}

/-- the table behind Take: the first free slot is busy -/
theorem tk25 {B k gf gb ob o' L c' : Nat} {r : List Int} (hR : RowT w B T Ag N cg (some ⟨gb, ob, none⟩) M cb Af F cf) (hk : k < M)
    (hf : Row w B 3 (some ⟨gf, o', none⟩) L c' (r.map (Value.int .i64))) (hfg : ∀ q, Ag = some q → q.block ≠ gf) :
    RowT (w.setCell ⟨gb, ob + k, none⟩ (.bool true)) B ⟨T.gens, T.busy.set k true, r⟩ Ag N cg (some ⟨gb, ob, none⟩) M cb (some ⟨gf, o', none⟩) L c' ∧ Below B w (w.setCell ⟨gb, ob + k, none⟩ (.bool true)) := by
  refine ⟨⟨?_, ?_, ?_, ?_⟩, ?_⟩
  · exact hR.g.far (p := ⟨gb, ob + k, none⟩) (fun q hq => hR.g.ne2 hR.b (by decide) q ⟨gb, ob, none⟩ hq rfl) _
  · have := hR.b.set (j := k) hk (.bool true)
    rwa [← List.map_set] at this
  · exact hf.far (p := ⟨gb, ob + k, none⟩) (fun q hq => hf.ne2 hR.b (by decide) q ⟨gb, ob, none⟩ hq rfl) _
  · intro q q' hq hq'
    cases hq'
    exact hfg q hq
  · exact (Below.refl _ _).setCell (p := ⟨gb, ob + k, none⟩) (hR.b.blk _ rfl).1 _

set_option maxRecDepth 100000 in
set_option maxHeartbeats 4000000 in
theorem rtake_any (h : At w T Ag N cg Ab M cb Af F cf) :
    Calls Try.prog 17 #[tv Ag N cg Ab M cb Af F cf] w (TakeEnds (takeT T) w) := by
  have hF' := h.hF
  have HH := Lib.hid h
  clear h
  unfold tv
  go_enter Try.func17, Try.ntmps17
  go_wp2_with fail
  refine (rright_any (HH.out.up (ba2 _ _ _))).mono ?_
  rintro e w1 ⟨rfl, hb1⟩
  have a0 := ((Box.new w 25 #[.slice Ag N cg, .slice Ab M cb, .slice Af F cf]).alloc (.cells #[.slice none 0 0, .slice none 0 0, .slice none 0 0] 25)).up hb1
  have a1 := (Box.mk' (w.alloc (.cells #[.slice Ag N cg, .slice Ab M cb, .slice Af F cf] 25)) 25 #[.slice none 0 0, .slice none 0 0, .slice none 0 0] (w.heap.size + 1) (by simp)).up hb1
  have hw1 := bon (ba2 w _ _) hb1
  clear hb1
  obtain ⟨⟨c0, c1, c2⟩, _⟩ := a0.three
  have hs1 : w.heap.size + 1 < w1.heap.size := a1.lt
  cases hok : okT T with
  | false =>
    have HE : Hid (takeT T = (T, 0, 1)) := Lib.hid (by simp [takeT, hok])
    clear hok
    go_wp2_with fail
    refine (own_any (HH.out.up hw1)).mono ?_
    rintro e w2 ⟨AG, cG, AB, cB, AF, cF, rfl, ho, hb2⟩
    have x1 := a1.up hb2
    have HL := Lib.hid (last3 (ho.row.mono (B' := w.heap.size) (by omega)) x1 (bon hw1 hb2) (by omega) (.slice AG N cG) (.slice AB M cB) (.slice AF F cF))
    obtain ⟨⟨d0, d1, d2⟩, e0, e1, e2⟩ := x1.three
    clear ho hb2 c0 c1 c2
    go_wp2
    refine bodyPost_ret (v := .tuple #[tv AG N cG AB M cB AF F cF, .int .i64 0, .int .i64 1]) (by simp [results, Try.results17, go_sem, d0, d1, d2]) rfl ?_
    rw [HE.out]
    exact ⟨AG, N, cG, AB, M, cB, AF, F, cF, rfl, HL.out.1, HL.out.2⟩
  | true =>
    have lf : T.free.length = F := HH.out.lf
    cases hfr : T.free with
    | nil =>
      have hF0 : F = 0 := by rw [← lf, hfr]; rfl
      subst hF0
      have HE : Hid (takeT T = (T, 0, 4)) := Lib.hid (by simp [takeT, hok, hfr])
      clear hok hfr lf
      go_wp2_with fail
      refine (own_any (HH.out.up hw1)).mono ?_
      rintro e w2 ⟨AG, cG, AB, cB, AF, cF, rfl, ho, hb2⟩
      have x1 := a1.up hb2
      have HL := Lib.hid (last3 (ho.row.mono (B' := w.heap.size) (by omega)) x1 (bon hw1 hb2) (by omega) (.slice AG N cG) (.slice AB M cB) (.slice AF 0 cF))
      obtain ⟨⟨d0, d1, d2⟩, e0, e1, e2⟩ := x1.three
      clear ho hb2 c0 c1 c2
      go_wp2
      refine bodyPost_ret (v := .tuple #[tv AG N cG AB M cB AF 0 cF, .int .i64 0, .int .i64 4]) (by simp [results, Try.results17, go_sem, d0, d1, d2]) rfl ?_
      rw [HE.out]
      exact ⟨AG, N, cG, AB, M, cB, AF, 0, cF, rfl, HL.out.1, HL.out.2⟩
    | cons x r =>
      obtain ⟨hx0, hx1, hx2⟩ := ok_free hok (x := x) (by rw [hfr]; simp)
      obtain ⟨k, rfl⟩ := Int.eq_ofNat_of_zero_le hx0
      obtain ⟨o1, o2, o3, o4, o5⟩ := ok_true hok
      rw [HH.out.lg] at o1 o2 o3 o4 hx1
      have hMN : M = N := by rw [← HH.out.lb]; exact o3
      subst hMN
      have hkM : k < M := by omega
      have hF0 : 0 < F := by rw [← lf, hfr]; simp
      have hF1 : (F : Int) ≠ 0 := by omega
      have HE : Hid (takeT T = (⟨T.gens, T.busy.set k true, r⟩, gd T.gens k * M + k, 0)) := Lib.hid (by simp [takeT, hok, hfr, HH.out.lg])
      obtain ⟨g0, g1⟩ := o4 k hkM
      obtain ⟨bf, of, rfl, hbf, hcf⟩ := Is.at (HH.out.up hw1).f (k := 0) (by rw [HH.out.lf]; exact hF0)
      have hcf0 : w1.cell? ⟨bf, of, none⟩ = some (.int .i64 (k : Int)) := by
        rw [Nat.add_zero] at hcf
        rw [hcf, hfr]
        rfl
      have HFR := Lib.hid hfr
      clear hok hfr lf hx0 hx1 hx2 o3 o4 o5 hcf
      go_wp2_with fail
      refine (own_any (HH.out.up hw1)).mono ?_
      rintro e w2 ⟨AG, cG, AB, cB, AF, cF, rfl, ho, hb2⟩
      have hR := ho.row
      obtain ⟨gb, ob, rfl, hgb, hgb', hcb⟩ := hR.b.at (by omega)
      obtain ⟨gf, o2', rfl, hgf, hgf', hcf⟩ := hR.f.at (by omega)
      obtain ⟨gg, og, rfl, hgg, hgg', hcg⟩ := hR.g.at (by omega)
      obtain ⟨hbk, hbfz⟩ := hcb k (by omega)
      have hbk' : w2.cell? ⟨gb, ob + k, none⟩ = some (.bool (bd T.busy k)) := by
        have hl : k < T.busy.length := by rw [HH.out.lb]; exact hkM
        rw [hbk, List.getElem?_map, List.getElem?_eq_getElem hl]
        simp [bd, List.getElem?_eq_getElem hl]
      have hFc := hR.f.le
      have hT1 := hR.f.tail (by omega)
      have hT0 : cF = 1 → Row w2 w1.heap.size 3 (some ⟨gf, o2', none⟩) (F - 1) 0 (T.free.map (Value.int .i64)).tail := fun e => by subst e; exact hR.f.tail0 (by omega)
      rw [HFR.out] at hT1 hT0
      simp only [List.map_cons, List.tail_cons] at hT1 hT0
      have HK := Lib.hid (fun o' L c' hf => tk25 (o' := o') (L := L) (c' := c') (r := r) hR hkM hf (fun q hq => ho.d q ⟨gf, o2', none⟩ hq rfl))
      have HT1 := Lib.hid hT1
      have HT0 := Lib.hid hT0
      obtain ⟨bg, og2, rfl, hbg, hcg2⟩ := Is.at (HH.out.up (bon hw1 hb2)).g (k := k) (by rw [HH.out.lg]; exact hkM)
      have y0 := a0.up hb2
      have y1 := a1.up hb2
      have hw2 := bon hw1 hb2
      have hs2 := hb2.size
      have hbg' : bg < w.heap.size := by
        obtain ⟨b3, o3, e3, h3, _⟩ := Is.at HH.out.g (k := k) (by rw [HH.out.lg]; exact hkM)
        injection e3 with e3
        injection e3 with e3 _
        subst e3
        exact h3
      obtain ⟨⟨c0', c1', c2'⟩, _⟩ := y0.three
      obtain ⟨⟨d0, d1, d2⟩, e0, e1, e2⟩ := y1.three
      have n1 : ¬ w2.heap.size = w.heap.size + 1 := by omega
      have n1' : ¬ w.heap.size + 1 = w2.heap.size := by omega
      have n2 : ¬ gb = w.heap.size + 1 := by omega
      have n2' : ¬ w.heap.size + 1 = gb := by omega
      have n3 : ¬ gb = w.heap.size := by omega
      have n3' : ¬ w.heap.size = gb := by omega
      have n4 : ¬ gb = w2.heap.size := by omega
      have n5 : ¬ bg = gb := by omega
      have n5' : ¬ gb = bg := by omega
      have n6 : ¬ bg = w2.heap.size := by omega
      have nbg : ¬ bg = w.heap.size + 1 := by omega
      have hp0 : 0 ≤ gd T.gens k * (M : Int) := Int.mul_nonneg g0 (by omega)
      have hp1 : gd T.gens k * (M : Int) ≤ 9007199254740992 * 64 := Int.mul_le_mul g1 (by omega) (by omega) (by omega)
      generalize gd T.gens k = G at *
      have hwr1 : IntKind.i64.wrap (G * (M : Int)) = G * (M : Int) := IntWalk.i64_in _ (by omega)
      have hwr2 : IntKind.i64.wrap (G * (M : Int) + (k : Int)) = G * (M : Int) + (k : Int) := IntWalk.i64_in _ (by omega)
      have HWR := Lib.hid (And.intro hwr1 hwr2)
      clear hwr1 hwr2
      clear c0 c1 c2 hcf0 a0 a1 ho hb2 hR hcb hcf hcg hbk hT1 hT0
      by_cases hcF : cF = 1
      · subst hcF
        obtain rfl : F = 1 := by omega
        go_wp2_with fail
        obtain ⟨r1, r2⟩ := HK.out _ 0 0 (HT0.out (by first | exact rfl | trivial))
        have z1 := (y1.far (p := ⟨gb, ob + k, none⟩) n2' (.bool true)).alloc (.cells #[.slice (some ⟨gg, og, none⟩) M cG, .slice (some ⟨gb, ob, none⟩) M cB, .slice (some ⟨gf, o2', none⟩) 0 0] 25)
        have z0 := (y0.far (p := ⟨gb, ob + k, none⟩) n3' (.bool true)).alloc (.cells #[.slice (some ⟨gg, og, none⟩) M cG, .slice (some ⟨gb, ob, none⟩) M cB, .slice (some ⟨gf, o2', none⟩) 0 0] 25)
        have z2 := Box.mk' (w2.setCell ⟨gb, ob + k, none⟩ (.bool true)) 25 #[.slice (some ⟨gg, og, none⟩) M cG, .slice (some ⟨gb, ob, none⟩) M cB, .slice (some ⟨gf, o2', none⟩) 0 0] w2.heap.size (by simp [World.setCell])
        have r3 := r1.up (ba1 _ (.cells #[.slice (some ⟨gg, og, none⟩) M cG, .slice (some ⟨gb, ob, none⟩) M cB, .slice (some ⟨gf, o2', none⟩) 0 0] 25))
        have r4 : Below w.heap.size w ((w2.setCell ⟨gb, ob + k, none⟩ (.bool true)).alloc (.cells #[.slice (some ⟨gg, og, none⟩) M cG, .slice (some ⟨gb, ob, none⟩) M cB, .slice (some ⟨gf, o2', none⟩) 0 0] 25)) := bon (hw2.trans (r2.mono (by omega))) (ba1 _ _)
        have hg5 : ((w2.setCell ⟨gb, ob + k, none⟩ (.bool true)).alloc (.cells #[.slice (some ⟨gg, og, none⟩) M cG, .slice (some ⟨gb, ob, none⟩) M cB, .slice (some ⟨gf, o2', none⟩) 0 0] 25)).cell? ⟨bg, og2 + k, none⟩ = some (.int .i64 G) := by
          refine cell_up (ba1 _ _) ?_
          exact (World.cell?_of_block (Below.heap_setCell w2 ⟨gb, ob + k, none⟩ _ bg n5)).trans hcg2
        clear HK HT1 HT0 r1 r2 y0 y1 c0' c1' c2' d0 d1 d2 e0 e1 e2 hbk' hbfz hcg2 hw2
        generalize (w2.setCell ⟨gb, ob + k, none⟩ (.bool true)).alloc (.cells #[.slice (some ⟨gg, og, none⟩) M cG, .slice (some ⟨gb, ob, none⟩) M cB, .slice (some ⟨gf, o2', none⟩) 0 0] 25) = W8 at *
        obtain ⟨⟨c0, c1, c2⟩, _⟩ := z2.three
        obtain ⟨⟨t0, _, _⟩, _⟩ := z0.three
        obtain ⟨⟨d0, d1, d2⟩, e0, e1, e2⟩ := z1.three
        have HL := Lib.hid (last3 (r3.mono (B' := w.heap.size) (by omega)) z1 r4 (by omega) (.slice (some ⟨gg, og, none⟩) M cG) (.slice (some ⟨gb, ob, none⟩) M cB) (.slice (some ⟨gf, o2', none⟩) 0 0))
        clear r3 r4 z0 z1 z2
        go_region_held3 (fun w' => w'.cell? ⟨w2.heap.size, 0, none⟩ = some (.slice (some ⟨gg, og, none⟩) M cG) ∧ w'.cell? ⟨w2.heap.size, 1, none⟩ = some (.slice (some ⟨gb, ob, none⟩) M cB) ∧ w'.cell? ⟨w2.heap.size, 2, none⟩ = some (.slice (some ⟨gf, o2', none⟩) 0 0) ∧ w'.cell? ⟨w.heap.size, 0, none⟩ = some (.slice (some ⟨bg, og2, none⟩) M cg) ∧ w'.cell? ⟨bg, og2 + k, none⟩ = some (.int .i64 G))
          (first | exact ⟨c0, c1, c2, t0, hg5⟩ | exact five n1 n1 n1 (Nat.ne_of_lt (Nat.lt_succ_self _)) nbg _ _ _ (by assumption))
          (fail)
        rename_i hHeld
        clear hHeld
        go_wp2_with fail
        refine bodyPost_ret (v := .tuple #[.agg #[.slice (some ⟨gg, og, none⟩) M cG, .slice (some ⟨gb, ob, none⟩) M cB, .slice (some ⟨gf, o2', none⟩) 0 0], .int .i64 (G * M + k), .int .i64 0]) (by simp [results, Try.results17, go_sem, d0, d1, d2, HWR.out.1, HWR.out.2]) rfl ?_
        rw [HE.out]
        exact ⟨_, M, cG, _, M, cB, _, 0, 0, rfl, HL.out.1.up (Below.refl _ _).drew, HL.out.2.drew⟩
      · have hcF2 : 1 < cF := by omega
        go_wp2_with fail
        obtain ⟨r1, r2⟩ := HK.out _ _ _ HT1.out
        have z1 := (y1.far (p := ⟨gb, ob + k, none⟩) n2' (.bool true)).alloc (.cells #[.slice (some ⟨gg, og, none⟩) M cG, .slice (some ⟨gb, ob, none⟩) M cB, .slice (some ⟨gf, o2' + 1, none⟩) (F - 1) (cF - 1)] 25)
        have z0 := (y0.far (p := ⟨gb, ob + k, none⟩) n3' (.bool true)).alloc (.cells #[.slice (some ⟨gg, og, none⟩) M cG, .slice (some ⟨gb, ob, none⟩) M cB, .slice (some ⟨gf, o2' + 1, none⟩) (F - 1) (cF - 1)] 25)
        have z2 := Box.mk' (w2.setCell ⟨gb, ob + k, none⟩ (.bool true)) 25 #[.slice (some ⟨gg, og, none⟩) M cG, .slice (some ⟨gb, ob, none⟩) M cB, .slice (some ⟨gf, o2' + 1, none⟩) (F - 1) (cF - 1)] w2.heap.size (by simp [World.setCell])
        have r3 := r1.up (ba1 _ (.cells #[.slice (some ⟨gg, og, none⟩) M cG, .slice (some ⟨gb, ob, none⟩) M cB, .slice (some ⟨gf, o2' + 1, none⟩) (F - 1) (cF - 1)] 25))
        have r4 : Below w.heap.size w ((w2.setCell ⟨gb, ob + k, none⟩ (.bool true)).alloc (.cells #[.slice (some ⟨gg, og, none⟩) M cG, .slice (some ⟨gb, ob, none⟩) M cB, .slice (some ⟨gf, o2' + 1, none⟩) (F - 1) (cF - 1)] 25)) := bon (hw2.trans (r2.mono (by omega))) (ba1 _ _)
        have hg5 : ((w2.setCell ⟨gb, ob + k, none⟩ (.bool true)).alloc (.cells #[.slice (some ⟨gg, og, none⟩) M cG, .slice (some ⟨gb, ob, none⟩) M cB, .slice (some ⟨gf, o2' + 1, none⟩) (F - 1) (cF - 1)] 25)).cell? ⟨bg, og2 + k, none⟩ = some (.int .i64 G) := by
          refine cell_up (ba1 _ _) ?_
          exact (World.cell?_of_block (Below.heap_setCell w2 ⟨gb, ob + k, none⟩ _ bg n5)).trans hcg2
        clear HK HT1 HT0 r1 r2 y0 y1 c0' c1' c2' d0 d1 d2 e0 e1 e2 hbk' hbfz hcg2 hw2
        generalize (w2.setCell ⟨gb, ob + k, none⟩ (.bool true)).alloc (.cells #[.slice (some ⟨gg, og, none⟩) M cG, .slice (some ⟨gb, ob, none⟩) M cB, .slice (some ⟨gf, o2' + 1, none⟩) (F - 1) (cF - 1)] 25) = W8 at *
        obtain ⟨⟨c0, c1, c2⟩, _⟩ := z2.three
        obtain ⟨⟨t0, _, _⟩, _⟩ := z0.three
        obtain ⟨⟨d0, d1, d2⟩, e0, e1, e2⟩ := z1.three
        have HL := Lib.hid (last3 (r3.mono (B' := w.heap.size) (by omega)) z1 r4 (by omega) (.slice (some ⟨gg, og, none⟩) M cG) (.slice (some ⟨gb, ob, none⟩) M cB) (.slice (some ⟨gf, o2' + 1, none⟩) (F - 1) (cF - 1)))
        clear r3 r4 z0 z1 z2
        go_region_held3 (fun w' => w'.cell? ⟨w2.heap.size, 0, none⟩ = some (.slice (some ⟨gg, og, none⟩) M cG) ∧ w'.cell? ⟨w2.heap.size, 1, none⟩ = some (.slice (some ⟨gb, ob, none⟩) M cB) ∧ w'.cell? ⟨w2.heap.size, 2, none⟩ = some (.slice (some ⟨gf, o2' + 1, none⟩) (F - 1) (cF - 1)) ∧ w'.cell? ⟨w.heap.size, 0, none⟩ = some (.slice (some ⟨bg, og2, none⟩) M cg) ∧ w'.cell? ⟨bg, og2 + k, none⟩ = some (.int .i64 G))
          (first | exact ⟨c0, c1, c2, t0, hg5⟩ | exact five n1 n1 n1 (Nat.ne_of_lt (Nat.lt_succ_self _)) nbg _ _ _ (by assumption))
          (fail)
        rename_i hHeld
        clear hHeld
        go_wp2_with fail
        refine bodyPost_ret (v := .tuple #[.agg #[.slice (some ⟨gg, og, none⟩) M cG, .slice (some ⟨gb, ob, none⟩) M cB, .slice (some ⟨gf, o2' + 1, none⟩) (F - 1) (cF - 1)], .int .i64 (G * M + k), .int .i64 0]) (by simp [results, Try.results17, go_sem, d0, d1, d2, HWR.out.1, HWR.out.2]) rfl ?_
        rw [HE.out]
        exact ⟨_, M, cG, _, M, cB, _, F - 1, (cF - 1), rfl, HL.out.1.up (Below.refl _ _).drew, HL.out.2.drew⟩

end
end Go.Proofs.Ytkglgbbekmljcaa
