/-
  The walks of take and of ids.Take.
-/
import Derived.Test.YtkglgbbekmljcaaChange
import Derived.Test.YtkglgbbekmljcaaRight2
namespace Go.Proofs.Ytkglgbbekmljcaa
open Go.RowKit

section
variable {Ag Ab Af : Option Addr} {N cg M cb F cf : Nat} {T : Tb} {w : World}

theorem wf_small {x : Int} (h0 : 0 ≤ x) (h1 : x ≤ 1000) : (Lit.int .i64 x).wf = true := WalkArith.wf_i64 (by omega)

/-- the table behind take: the first free slot is busy -/
theorem tk_fin {p B k gf gb ob o' c' : Nat} {r : List Int} (hb : Box w p 49 #[.slice Ag N cg, .slice (some ⟨gb, ob, none⟩) M cb, .slice Af F cf]) (hR : RowT w B T Ag N cg (some ⟨gb, ob, none⟩) M cb Af F cf) (hBp : B ≤ p) (hgb : B ≤ gb) (hk : k < M)
    (hf : Row w B 3 (some ⟨gf, o', none⟩) (F - 1) c' (r.map (Value.int .i64))) (hfg : ∀ q, Ag = some q → q.block ≠ gf) :
    RowT ((w.setCell ⟨p, 2, none⟩ (.slice (some ⟨gf, o', none⟩) (F - 1) c')).setCell ⟨gb, ob + k, none⟩ (.bool true)) B ⟨T.gens, T.busy.set k true, r⟩ Ag N cg (some ⟨gb, ob, none⟩) M cb (some ⟨gf, o', none⟩) (F - 1) c' ∧
    Box ((w.setCell ⟨p, 2, none⟩ (.slice (some ⟨gf, o', none⟩) (F - 1) c')).setCell ⟨gb, ob + k, none⟩ (.bool true)) p 49 #[.slice Ag N cg, .slice (some ⟨gb, ob, none⟩) M cb, .slice (some ⟨gf, o', none⟩) (F - 1) c'] ∧
    Below B w ((w.setCell ⟨p, 2, none⟩ (.slice (some ⟨gf, o', none⟩) (F - 1) c')).setCell ⟨gb, ob + k, none⟩ (.bool true)) ∧ B ≤ ((w.setCell ⟨p, 2, none⟩ (.slice (some ⟨gf, o', none⟩) (F - 1) c')).setCell ⟨gb, ob + k, none⟩ (.bool true)).heap.size := by
  refine ⟨⟨?_, ?_, ?_, ?_⟩, ?_, ?_, ?_⟩
  · exact (hR.g.far (p := ⟨p, 2, none⟩) (hR.g.ne hb (by decide)) _).far (p := ⟨gb, ob + k, none⟩) (fun q hq => hR.g.ne2 hR.b (by decide) q ⟨gb, ob, none⟩ hq rfl) _
  · have := (hR.b.far (p := ⟨p, 2, none⟩) (hR.b.ne hb (by decide)) (.slice (some ⟨gf, o', none⟩) (F - 1) c')).set (j := k) hk (.bool true)
    rwa [← List.map_set] at this
  · exact (hf.far (p := ⟨p, 2, none⟩) (hf.ne hb (by decide)) _).far (p := ⟨gb, ob + k, none⟩) (fun q hq => hf.ne2 hR.b (by decide) q ⟨gb, ob, none⟩ hq rfl) _
  · intro q q' hq hq'
    cases hq'
    exact hfg q hq
  · have hne : p ≠ gb := fun e => hR.b.ne hb (by decide) _ rfl e.symm
    have := (hb.set 2 (.slice (some ⟨gf, o', none⟩) (F - 1) c')).far (p := ⟨gb, ob + k, none⟩) hne (.bool true)
    simpa using this
  · exact ((Below.refl _ _).setCell (p := ⟨p, 2, none⟩) hBp _).setCell (p := ⟨gb, ob + k, none⟩) hgb _
  · have := hb.lt
    simp only [World.setCell, Array.size_modify]
    omega

theorem tk_id {p B k gf gb ob o' c' : Nat} {r : List Int} (hb : Box w p 49 #[.slice Ag N cg, .slice (some ⟨gb, ob, none⟩) M cb, .slice Af F cf]) (hR : RowT w B T Ag N cg (some ⟨gb, ob, none⟩) M cb Af F cf) (hBp : B ≤ p) (hgb : B ≤ gb) (hk : k < M) (hkN : k < N) (hN : N ≤ 64) (hM : M ≤ 64) (hF : F ≤ 1000)
    (hf : Row w B 3 (some ⟨gf, o', none⟩) (F - 1) c' (r.map (Value.int .i64))) (hfg : ∀ q, Ag = some q → q.block ≠ gf) (hwr : ∀ x ∈ r, (Lit.int .i64 x).wf = true) (h0 : 0 ≤ gd T.gens k) (h1 : gd T.gens k ≤ 9007199254740992) :
    Calls Try.prog 33 #[.agg #[.slice Ag N cg, .slice (some ⟨gb, ob, none⟩) M cb, .slice (some ⟨gf, o', none⟩) (F - 1) c'], .int .i64 (k : Int)] ((w.setCell ⟨p, 2, none⟩ (.slice (some ⟨gf, o', none⟩) (F - 1) c')).setCell ⟨gb, ob + k, none⟩ (.bool true))
      fun e w' => e = .returned (.int .i64 (gd T.gens k * N + k)) ∧ Box w' p 49 #[.slice Ag N cg, .slice (some ⟨gb, ob, none⟩) M cb, .slice (some ⟨gf, o', none⟩) (F - 1) c'] ∧ RowT w' B ⟨T.gens, T.busy.set k true, r⟩ Ag N cg (some ⟨gb, ob, none⟩) M cb (some ⟨gf, o', none⟩) (F - 1) c' ∧ Below B w w' := by
  obtain ⟨r1, r2, r3, r4⟩ := tk_fin (o' := o') (c' := c') (r := r) hb hR hBp hgb hk hf hfg
  generalize World.setCell (World.setCell w _ _) _ _ = W at *
  have hA := r1.at (by omega) (by omega) (by omega) hwr
  refine (id_any hA k hkN hN h0 h1).mono ?_
  rintro e w' ⟨he, hb'⟩
  exact ⟨he, r2.up hb', r1.up hb', r3.trans (hb'.mono r4)⟩

set_option maxHeartbeats 2000000 in
theorem tk_any (p B k : Nat) (r : List Int) (hb : Box w p 49 #[.slice Ag N cg, .slice Ab M cb, .slice Af F cf]) (ho : Own0 w B T Ag N cg Ab M cb Af F cf) (hBp : B ≤ p) (hok : okT T = true) (hfr : T.free = (k : Int) :: r) :
    Calls Try.prog 23 #[.pointer (some ⟨p, 0, none⟩)] w fun e w' => e = .returned (.int .i64 (gd T.gens k * N + k)) ∧
      ∃ Af' cf', Box w' p 49 #[.slice Ag N cg, .slice Ab M cb, .slice Af' (F - 1) cf'] ∧ RowT w' B ⟨T.gens, T.busy.set k true, r⟩ Ag N cg Ab M cb Af' (F - 1) cf' ∧ Below B w w' := by
  obtain ⟨o1, o2, o3, o4, o5⟩ := ok_true hok
  have hk := ok_free hok (x := k) (by rw [hfr]; simp)
  have hkN : k < T.gens.length := by omega
  have hR := ho.row
  have lg : T.gens.length = N := by simpa using hR.g.1
  have lb : T.busy.length = M := by simpa using hR.b.1
  have lf : T.free.length = F := by simpa using hR.f.1
  have hlf : r.length + 1 = F := by rw [← lf, hfr]; simp
  rw [lg] at o1 o2 o3 hkN
  have hMN : M = N := by omega
  subst hMN
  obtain ⟨g0, g1⟩ := o4 k (by omega)
  have hwr : ∀ x ∈ r, (Lit.int .i64 x).wf = true := fun x hx => by
    have := ok_free hok (x := x) (by rw [hfr]; simp [hx])
    exact wf_small (by omega) (by omega)
  have hFle : F ≤ 1000 := by
    have := o5.length_eq
    rw [length_nb, lf] at this
    have := wants_le T.busy T.gens.length
    omega
  obtain ⟨gf, of, rfl, hgf, hgf', hcf⟩ := hR.f.at (by omega)
  obtain ⟨gb, ob, rfl, hgb, hgb', hcb⟩ := hR.b.at (by omega)
  have hf0 := (hcf 0 (by omega)).1
  rw [hfr] at hf0
  simp only [List.map_cons, List.getElem?_cons_zero, Nat.add_zero] at hf0
  obtain ⟨hbk, hbf⟩ := hcb k (by omega)
  have hFc := hR.f.le
  have hne1 : gf ≠ p := hR.f.ne hb (by decide) _ rfl
  have hne2 : gb ≠ p := hR.b.ne hb (by decide) _ rfl
  obtain ⟨⟨c0, c1, c2⟩, f0, f1, f2⟩ := hb.three
  have hne1' : p ≠ gf := fun e => hne1 e.symm
  have hne2' : p ≠ gb := fun e => hne2 e.symm
  have H1 := Lib.hid (fun o' c' hf => tk_id (o' := o') (c' := c') (r := r) hb hR hBp hgb hkN hkN o2 o2 hFle hf (fun q hq => ho.d q ⟨gf, of, none⟩ hq rfl) hwr g0 g1)
  have HT := Lib.hid (hR.f.tail (by omega))
  have HT0 : Hid (cf = 1 → Row w B 3 (some ⟨gf, of, none⟩) (F - 1) 0 (T.free.map (Value.int .i64)).tail) := Lib.hid (fun e => by subst e; exact hR.f.tail0 (by omega))
  rw [hfr] at HT HT0
  simp only [List.map_cons, List.tail_cons] at HT HT0
  have hkM : (k : Int) < M := by omega
  have hbk' : w.cell? ⟨gb, ob + k, none⟩ = some (.bool (bd T.busy k)) := by
    rw [hbk, List.getElem?_map, List.getElem?_eq_getElem (by omega)]
    simp [bd, List.getElem?_eq_getElem (show k < T.busy.length by omega)]
  clear hcf hcb hbk hwr ho hR hok hfr lg lb lf o3 o4 o5 hk hb g0 g1
  go_enter Try.func23, Try.ntmps23
  go_wp2_with fail
  · refine (H1.out _ _ (HT0.out (by omega))).mono ?_
    rintro e w3 ⟨rfl, hb3⟩
    have HB3 := Lib.hid hb3
    clear hb3
    go_wp2
    go_ret
    exact ⟨rfl, _, _, HB3.out⟩
  · refine (H1.out _ _ HT.out).mono ?_
    rintro e w3 ⟨rfl, hb3⟩
    have HB3 := Lib.hid hb3
    clear hb3
    go_wp2
    go_ret
    exact ⟨rfl, _, _, HB3.out⟩

end
end Go.Proofs.Ytkglgbbekmljcaa
