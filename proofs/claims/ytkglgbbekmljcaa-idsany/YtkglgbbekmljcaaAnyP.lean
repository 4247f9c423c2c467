/-
  Proved: the law IdsAny answers true for every input, and leaves its arguments as they were (Rows.IdsAnySaid; no condition).
-/
import Derived.Test.YtkglgbbekmljcaaRows
import Derived.Test.YtkglgbbekmljcaaAny
import Derived.Test.YtkglgbbekmljcaaOpen2
import Derived.WalkKit
import Derived.ProofKit
import Derived.OpenShut
import Derived.ShutString
import Derived.ChangeOld
import Derived.Below
import Derived.HandedShaped
import Derived.Lib.SmallJoins
namespace Go.Proofs.Ytkglgbbekmljcaa
open Go.ChangeShapes Go.WideShapes Go.ChangeAt Go.RowKit Go.Joins

theorem own_knob : ownKnob Try.prog.godebug = none := by kernel_rfl
theorem laid_out : laidOutB Try.prog = true := by kernel_rfl
theorem cells25 : Try.prog.cellsOf 25 = 3 := by kernel_rfl

set_option maxRecDepth 100000 in
theorem any_lifted (os : Os) (started : os.Started) (H : Type) (enc : TypeId × Value → H) :
    ReturnsInHanded {} Try.checked os 3 .any (Rows.idsAnySpec.pre6 enc Try.prog Try.f3 Rows.idsAnyRow.domain false) (Rows.idsAnySpec.post enc Try.prog Try.f3 false true false false) := by
  refine returnsInHanded_of_change_shaped (C := Try.checked) own_knob started (by kernel_rfl) Try.func3
    (ChangeSpec.witness6 (enc := enc) (C := Try.checked) false ⟨#[], #[.agg #[.slice none 0 0, .slice none 0 0, .slice none 0 0], .int .i64 0, .int .i64 0], []⟩ 8 (by kernel_rfl) (by kernel_rfl) (by kernel_rfl) (by kernel_rfl)) ?_
  intro W base args ds gs before hval0 hW hcnd _ hsh _
  have hval : ∀ (j : Nat) t v, Try.f3.params[j]? = some t → args[j]? = some v → Value.okWide Try.prog W .any base t v := hval0
  have hW' := hW
  obtain ⟨p, q, hA0, hV, rfl, hfz, hnd⟩ := hW
  have hA : DataW.TrodAll enc Try.prog W 0 (fun _ => true) true Try.f3.params.toList args.toList ds p := hA0
  rw [Try.params3] at hA hval
  obtain ⟨v0, vs0, d0, ds0, p0, q0, hargs, rfl, rfl, h0, r0⟩ := trodAll_cons hA
  obtain ⟨v1, vs1, d1, ds1, p1, q1, rfl, rfl, rfl, h1, r1⟩ := trodAll_cons r0
  obtain ⟨v2, vs2, d2, ds2, p2, q2, rfl, rfl, rfl, h2, r2⟩ := trodAll_cons r1
  obtain ⟨rfl, rfl, rfl⟩ := trodAll_nil r2
  obtain rfl : args = #[v0, v1, v2] := by cases args; simp_all
  obtain ⟨rfl, rfl⟩ := trodVars_none hV
  have k0 := h0
  have lt0 : ∀ x ∈ p0, x.block < W.heap.size := by obtain ⟨m, hm⟩ := k0; exact DataW.trod_lt m _ _ _ hm
  obtain ⟨e0, e1, e2, y0, y1, y2, fuel, rfl, hd0, hp0, hy0, hy1, hy2⟩ := open_agg3 Try.underlying25 (by kernel_rfl) cells25 (hval 0 25 v0 rfl rfl) h0
  obtain ⟨ag, N, cg, gs, rfl, lg, Ig, cg0, mg⟩ : ∃ (a : Option Addr) (len cap : Nat) (ys : List Int), e0 = .slice a len cap ∧ ys.length = len ∧ Is W a ys ∧ (a = none → cap = 0) ∧ len ≤ maxLen := by
    rcases open_ints Try.underlying22 Try.underlying3 (by kernel_rfl) hy0 with ⟨hcs, _⟩ | ⟨x, l, c, zs, hcs, _, hl, hm, hz, _, hcell, hwz⟩
    · simp only [List.cons.injEq, and_true] at hcs
      exact ⟨none, 0, 0, [], hcs, rfl, Vs.nil _ _, fun _ => rfl, Nat.zero_le _⟩
    · simp only [List.cons.injEq, and_true] at hcs
      obtain ⟨ys, h1, h2, _⟩ := is_of_ints hl (by simpa using hz) hcell hwz
      exact ⟨some x, l, c, ys, hcs, h1, h2, (fun h => by cases h), Nat.le_trans hl hm⟩
  obtain ⟨ab, M, cb, bs, rfl, lb, Ib, cb0, mb⟩ : ∃ (a : Option Addr) (len cap : Nat) (ys : List Bool), e1 = .slice a len cap ∧ ys.length = len ∧ Bl W a ys ∧ (a = none → cap = 0) ∧ len ≤ maxLen := by
    rcases Go.Deep.open_bools Try.underlying23 Try.underlying4 (by kernel_rfl) hy1 with ⟨hcs, _⟩ | ⟨x, l, c, B, hcs, _, hl, hm, _, hcell⟩
    · simp only [List.cons.injEq, and_true] at hcs
      exact ⟨none, 0, 0, [], hcs, rfl, Vs.nil _ _, fun _ => rfl, Nat.zero_le _⟩
    · simp only [List.cons.injEq, and_true] at hcs
      obtain ⟨ys, h1, h2⟩ := bl_of_bools hl hcell
      exact ⟨some x, l, c, ys, hcs, h1, h2, (fun h => by cases h), Nat.le_trans hl hm⟩
  obtain ⟨af, F, cf, fs, rfl, lf, If, cf0, mf, wff⟩ : ∃ (a : Option Addr) (len cap : Nat) (ys : List Int), e2 = .slice a len cap ∧ ys.length = len ∧ Is W a ys ∧ (a = none → cap = 0) ∧ len ≤ maxLen ∧ ∀ x ∈ ys, (Lit.int .i64 x).wf = true := by
    rcases open_ints Try.underlying22 Try.underlying3 (by kernel_rfl) hy2 with ⟨hcs, _⟩ | ⟨x, l, c, zs, hcs, _, hl, hm, hz, _, hcell, hwz⟩
    · simp only [List.cons.injEq, and_true] at hcs
      exact ⟨none, 0, 0, [], hcs, rfl, Vs.nil _ _, fun _ => rfl, Nat.zero_le _, fun x hx => by cases hx⟩
    · simp only [List.cons.injEq, and_true] at hcs
      obtain ⟨ys, h1, h2, h3⟩ := is_of_ints hl (by simpa using hz) hcell hwz
      exact ⟨some x, l, c, ys, hcs, h1, h2, (fun h => by cases h), Nat.le_trans hl hm, h3⟩
  obtain ⟨id, rfl, rfl, rfl, wi⟩ := open_int Try.underlying3 (hval 1 3 v1 rfl rfl) h1
  obtain ⟨room, rfl, rfl, rfl, wr⟩ := open_int Try.underlying3 (hval 2 3 v2 rfl rfl) h2
  clear hA0 hval0
  have hid := (bounds_i64 wi).2
  refine (any_any (T := ⟨gs, bs, fs⟩) (w := W) (Ag := ag) (N := N) (cg := cg) (Ab := ab) (M := M) (cb := cb) (Af := af) (F := F) (cf := cf) id room mg mb mf (by omega) (Lib.hid fun n1 n2 n3 => ⟨lg, lb, lf, Ig, Ib, If, by omega, by omega, by omega, cg0, cb0, cf0, wff⟩)).mono fun e W' ⟨he, bel⟩ => ?_
  subst he
  exact ⟨_, rfl, _, _, _, [], _, [], hW', trodAll_mk1 (shut_bool Try.underlying4 _), (trodAll_cons_mk (Below.trod laid_out (by kernel_rfl) (of_decide_eq_true (by kernel_rfl)) k0 bel lt0) (trodAll_cons_mk (shut_int Try.underlying3 wi) (trodAll_cons_mk (shut_int Try.underlying3 wr) trodAll_mk0))), rfl, bel.frame _, fun h => by cases h⟩

theorem ids_any_holds : Rows.IdsAnySaid :=
  OpenClaim.holds_of_wide 3 Try.f3 rfl rfl rfl rfl rfl rfl rfl ⟨rfl, rfl, rfl, rfl, rfl⟩ rfl rfl rfl rfl rfl (by kernel_rfl) Try.func3 (by kernel_rfl)
    (of_decide_eq_true (by kernel_rfl)) (by unfold Func.isWrapper; first | (rw [if_pos (by decide +kernel)]; kernel_rfl) | (rw [if_neg (by decide +kernel)]; exact ⟨rfl, rfl⟩))
    (fun os started H enc _ => any_lifted os started H enc)

end Go.Proofs.Ytkglgbbekmljcaa
