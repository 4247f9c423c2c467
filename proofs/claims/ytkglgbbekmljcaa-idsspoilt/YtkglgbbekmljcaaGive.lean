/-
  The walk of give.
-/
import Derived.Test.YtkglgbbekmljcaaTake2
namespace Go.Proofs.Ytkglgbbekmljcaa
open Go.RowKit

theorem own_at {w : World} {B n c : Nat} {t : TypeId} {A : Option Addr} {vs : List Value} (h : w.ownsRow B t 1 (.slice A n c) n vs) (hn : 0 < n) : ∃ g, A = some ⟨g, 0, none⟩ ∧ B ≤ g ∧ g < w.heap.size ∧ ∀ j, j < n → w.cell? ⟨g, j, none⟩ = vs[j]? ∧ w.frozen? ⟨g, j, none⟩ = false := by
  rcases h.2 with ⟨_, h2⟩ | ⟨g, cap, cur, h1, h2, h3, h4⟩
  · omega
  · injection h1 with h1
    subst h1
    exact ⟨g, rfl, h2, (Array.getElem?_eq_some_iff.1 h3).1, fun j hj => ⟨h.cellAt j (by omega), h.frozenAt j⟩⟩

theorem own_ne {w : World} {B n c : Nat} {t : TypeId} {A : Option Addr} {vs : List Value} (h : w.ownsRow B t 1 (.slice A n c) n vs) {B' n' c' : Nat} {t' : TypeId} {A' : Option Addr} {vs' : List Value} (h' : w.ownsRow B' t' 1 (.slice A' n' c') n' vs') (ht : t' ≠ t) : ∀ q q', A = some q → A' = some q' → q.block ≠ q'.block :=
  (Row.of_own h).ne2 (Row.of_own h') ht

section
variable {Ag Ab Af : Option Addr} {N cg M cb F cf : Nat} {T : Tb} {w : World}

/-- the slot is free and has another Gen -/
theorem gv_fin1 {B gg gb k : Nat} {x : Int} (h : Own0 w B T (some ⟨gg, 0, none⟩) N cg (some ⟨gb, 0, none⟩) M cb Af F cf) :
    Own0 ((w.setCell ⟨gb, k, none⟩ (.bool false)).setCell ⟨gg, k, none⟩ (.int .i64 x)) B ⟨T.gens.set k x, T.busy.set k false, T.free⟩ (some ⟨gg, 0, none⟩) N cg (some ⟨gb, 0, none⟩) M cb Af F cf := by
  have hne : gg ≠ gb := own_ne h.g h.b (by decide) _ _ rfl rfl
  refine ⟨?_, ?_, ?_, h.d⟩
  · have := ((own_far h.g (p := ⟨gb, k, none⟩) (fun q hq => by cases hq; exact hne) (.bool false)).stored k (.int .i64 x)).1
    rwa [← List.map_set] at this
  · have := (h.b.stored k (.bool false)).1
    rw [← List.map_set] at this
    exact own_far this (fun q hq => by cases hq; exact hne.symm) _
  · exact own_far (own_far h.f (p := ⟨gb, k, none⟩) (fun q hq => own_ne h.f h.b (by decide) q ⟨gb, 0, none⟩ hq rfl) _) (p := ⟨gg, k, none⟩) (fun q hq e => h.d _ _ rfl hq e.symm) _

/-- the slot is appended to Free -/
theorem gv_fin2 {W w1 : World} {B p : Nat} {x : Int} {v' : Value} {o : Obj} (h : Own0 W B T Ag N cg Ab M cb Af F cf) (hb : Box W p 49 #[.slice Ag N cg, .slice Ab M cb, .slice Af F cf])
    (hown : w1.ownsRow B 3 1 v' (F + 1) (T.free.map (Value.int .i64) ++ [.int .i64 x])) (hgrow : (W.alloc o).grownBy w1 (Value.slice Af F cf).ownBlock) (hloc : v'.ownBlock = (Value.slice Af F cf).ownBlock ∨ v'.ownBlock = some (W.alloc o).heap.size) (hB : B ≤ W.heap.size) :
    ∃ Af' cf', v' = .slice Af' (F + 1) cf' ∧ Box w1 p 49 #[.slice Ag N cg, .slice Ab M cb, .slice Af F cf] ∧ RowT w1 B ⟨T.gens, T.busy, T.free ++ [x]⟩ Ag N cg Ab M cb Af' (F + 1) cf' ∧ Below B W w1 := by
  obtain ⟨Af', cf', rfl⟩ := ownsRow_slice hown
  have hblk : ∀ j, j < W.heap.size → (∀ q, Af = some q → q.block ≠ j) → w1.heap[j]? = W.heap[j]? := by
    intro j hj hne
    refine (hgrow.block j (by simp; omega) ?_).trans (Below.heap_alloc W o j hj)
    intro e
    cases Af with
    | none => cases e
    | some q =>
      have e' : j = q.block := by injection e
      exact hne q rfl e'.symm
  have hR := h.row
  refine ⟨Af', cf', rfl, ?_, ⟨?_, ?_, ?_, ?_⟩, ?_⟩
  · exact (hblk p hb.lt (hR.f.ne hb (by decide))).trans hb
  · exact hR.g.keep fun q hq => hblk _ (hR.g.blk q hq).2 (fun q' hq' e => h.d _ _ hq hq' e.symm)
  · exact hR.b.keep fun q hq => hblk _ (hR.b.blk q hq).2 (fun q' hq' => hR.f.ne2 hR.b (by decide) _ _ hq' hq)
  · have := Row.of_own hown
    simpa using this
  · intro q q' hq hq'
    subst hq'
    have hq1 := (hR.g.blk q hq).2
    rcases hloc with hl | hl
    · cases hAf : Af with
      | none => rw [hAf] at hl; cases hl
      | some a =>
        rw [hAf] at hl
        have e' : q'.block = a.block := by injection hl
        rw [e']
        exact h.d _ _ hq hAf
    · have e' : q'.block = (W.alloc o).heap.size := by injection hl
      simp at e'
      omega
  · refine Below.grown ((Below.refl B W).alloc hB o) hgrow (by simp; omega) ?_
    intro j hj
    cases hAf : Af with
    | none => rw [hAf] at hj; cases hj
    | some a =>
      rw [hAf] at hj
      have e' : a.block = j := by injection hj
      have := (hR.f.blk a hAf).1
      omega

set_option maxRecDepth 100000 in
set_option maxHeartbeats 2000000 in
theorem gv_any (p B k : Nat) (id : Int) (hb : Box w p 49 #[.slice Ag N cg, .slice Ab M cb, .slice Af F cf]) (ho : Own0 w B T Ag N cg Ab M cb Af F cf) (hBp : B ≤ p) (hok : okT T = true) (hid : 0 ≤ id) (hk : id % (N : Int) = k) :
    Calls Try.prog 26 #[.pointer (some ⟨p, 0, none⟩), .int .i64 id] w fun e w' => (∃ v, e = .returned v) ∧
      ∃ Af' cf', Box w' p 49 #[.slice Ag N cg, .slice Ab M cb, .slice Af' (F + 1) cf'] ∧ RowT w' B ⟨T.gens.set k (gd T.gens k + 1), T.busy.set k false, T.free ++ [(k : Int)]⟩ Ag N cg Ab M cb Af' (F + 1) cf' ∧ Below B w w' := by
  obtain ⟨o1, o2, o3, o4, o5⟩ := ok_true hok
  have hR := ho.row
  have lg : T.gens.length = N := by simpa using hR.g.1
  have lb : T.busy.length = M := by simpa using hR.b.1
  have lf : T.free.length = F := by simpa using hR.f.1
  rw [lg] at o1 o2 o3
  have hMN : M = N := by omega
  subst hMN
  have hkM : k < M := by have := Int.emod_lt_of_pos id (show (0 : Int) < M by omega); omega
  obtain ⟨g0, g1⟩ := o4 k (by omega)
  have hwr : ∀ x ∈ T.free, (Lit.int .i64 x).wf = true := fun x hx => by
    have := ok_free hok hx
    exact wf_small (by omega) (by omega)
  have hFle : F ≤ 64 := by
    have := o5.length_eq
    rw [length_nb, lf] at this
    have := wants_le T.busy T.gens.length
    omega
  have HA := Lib.hid (hR.at (by omega) (by omega) (by omega) hwr)
  obtain ⟨gg, rfl, hgg, hgg', hcg⟩ := own_at ho.g (by omega)
  obtain ⟨gb, rfl, hgb, hgb', hcb⟩ := own_at ho.b (by omega)
  have hne1 : gg ≠ p := hR.g.ne hb (by decide) _ rfl
  have hne2 : gb ≠ p := hR.b.ne hb (by decide) _ rfl
  have hne3 : gg ≠ gb := own_ne ho.g ho.b (by decide) _ _ rfl rfl
  have HO := Lib.hid ho
  have HB := Lib.hid hb
  obtain ⟨hbk, _⟩ := hcb k (by omega)
  obtain ⟨hgk, _⟩ := hcg k (by omega)
  have hgk' : w.cell? ⟨gg, k, none⟩ = some (.int .i64 (gd T.gens k)) := by
    rw [hgk, List.getElem?_map, List.getElem?_eq_getElem (by omega)]
    simp [gd, List.getElem?_eq_getElem (show k < T.gens.length by omega)]
  have hbk' : w.cell? ⟨gb, k, none⟩ = some (.bool (bd T.busy k)) := by
    rw [hbk, List.getElem?_map, List.getElem?_eq_getElem (by omega)]
    simp [bd, List.getElem?_eq_getElem (show k < T.busy.length by omega)]
  obtain ⟨⟨c0, c1, c2⟩, _⟩ := hb.three
  have HL := Lib.hid (show B ≤ w.heap.size by have := hb.lt; omega)
  clear hcg hcb hbk hgk hwr hR hok lg lb lf o3 o4 o5 hb ho
  obtain ⟨G, hG⟩ : ∃ G, gd T.gens k = G := ⟨_, rfl⟩
  rw [hG] at g0 g1 hgk' ⊢
  clear hG
  obtain ⟨i0, hi, hz0, hz1, hz2⟩ := info_parts info3
  go_enter Try.func26, Try.ntmps26
  go_wp2_with fail
  refine (slot_any HA.out id (by omega) hid).mono ?_
  rintro e w1 ⟨rfl, hb1⟩
  rw [hk]
  have b1 := HB.out.up hb1
  have o1' := HO.out.up hb1
  have y0 := cell_up hb1 hgk'
  have y1 := cell_up hb1 hbk'
  have y2 := o1'.g.frozenAt k
  have y3 := o1'.b.frozenAt k
  obtain ⟨⟨z0, z1, z2⟩, zf0, zf1, zf2⟩ := b1.three
  have HO1 := Lib.hid (gv_fin1 (k := k) (x := G + 1) o1')
  have HB1 : Hid (Box ((w1.setCell ⟨gb, k, none⟩ (.bool false)).setCell ⟨gg, k, none⟩ (.int .i64 (G + 1))) p 49 #[.slice (some ⟨gg, 0, none⟩) M cg, .slice (some ⟨gb, 0, none⟩) M cb, .slice Af F cf]) :=
    Lib.hid ((b1.far (p := ⟨gb, k, none⟩) (fun e => hne2 e.symm) _).far (p := ⟨gg, k, none⟩) (fun e => hne1 e.symm) _)
  have HL1 : Hid (Below B w ((w1.setCell ⟨gb, k, none⟩ (.bool false)).setCell ⟨gg, k, none⟩ (.int .i64 (G + 1))) ∧ B ≤ w1.heap.size) :=
    Lib.hid ⟨((hb1.mono HL.out).setCell (p := ⟨gb, k, none⟩) hgb _).setCell (p := ⟨gg, k, none⟩) hgg _, Nat.le_trans HL.out hb1.size⟩
  have hne1' : p ≠ gg := fun e => hne1 e.symm
  have hne2' : p ≠ gb := fun e => hne2 e.symm
  have hne3' : gb ≠ gg := fun e => hne3 e.symm
  clear b1 o1' hb1 c0 c1 c2 hgk' hbk'
  go_wp2_with (at_builtin; refine wpList_append_own_at _ rfl _ _ 22 rfl B 3 i0 (.int .i64 0) 1 8 Try.underlying22 hi hz0 hz1 hz2 rfl (by decide) _ _ _ rfl (own_up HO1.out.f (ba1 _ _)) ⟨w1.heap.size, 0, none⟩ 1 1 [.int .i64 (k : Int)] rfl rfl ?hn ?ho ?hm ?hy ?hbs ?_; rotate_right; intro v' w2 hown hgrow _ hloc; obtain ⟨Af', cf', rfl, hbx, hrx, hbl⟩ := gv_fin2 HO1.out HB1.out hown hgrow hloc (by simpa [World.setCell] using HL1.out.2); obtain ⟨⟨u0, u1, u2⟩, uf0, uf1, uf2⟩ := hbx.three; clear hown hgrow hloc; have HX := Lib.hid hrx; have HY := Lib.hid hbx; clear hrx hbx)
  case hn =>
    have hsz : ((w1.setCell ⟨gb, k, none⟩ (.bool false)).setCell ⟨gg, k, none⟩ (.int .i64 (G + 1))).heap.size = w1.heap.size := by simp [World.setCell]
    rw [← hsz]
    exact cell_one_new _ _ _
  case ho => exact one_iv [(k : Int)]
  case hm => unfold maxLen; omega
  case hy => omega
  case hbs => simpa [World.setCell] using Nat.le_trans HL1.out.2 (Nat.le_succ _)
  have HF : Hid (RowT (w2.setCell ⟨p, 2, none⟩ (.slice Af' (F + 1) cf')) B ⟨T.gens.set k (G + 1), T.busy.set k false, T.free ++ [(k : Int)]⟩ (some ⟨gg, 0, none⟩) M cg (some ⟨gb, 0, none⟩) M cb Af' (F + 1) cf') := Lib.hid (HX.out.farT HY.out (by decide) (by decide) 2 _)
  have HB2 : Hid (Box (w2.setCell ⟨p, 2, none⟩ (.slice Af' (F + 1) cf')) p 49 #[.slice (some ⟨gg, 0, none⟩) M cg, .slice (some ⟨gb, 0, none⟩) M cb, .slice Af' (F + 1) cf']) := Lib.hid (by simpa using HY.out.set 2 (.slice Af' (F + 1) cf'))
  refine ⟨rfl, .tuple #[], by simp [results, Try.results26, go_sem], ?_⟩
  exact ⟨⟨_, rfl⟩, Af', cf', HB2.out, HF.out, (HL1.out.1.trans hbl).setCell (p := ⟨p, 2, none⟩) hBp _⟩

end
end Go.Proofs.Ytkglgbbekmljcaa
