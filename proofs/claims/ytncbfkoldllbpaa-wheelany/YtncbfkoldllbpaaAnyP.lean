/-
  The law WheelAny answers true for every input, and leaves its arguments as they were, if wheel's own calls keep what is asked of them.
-/
import Derived.Test.YtncbfkoldllbpaaRows
import Derived.Test.YtncbfkoldllbpaaAny
import Derived.Test.YtncbfkoldllbpaaOpen
import Derived.WalkKit
import Derived.ProofKit
import Derived.OpenShut
import Derived.ShutString
import Derived.ChangeOld
import Derived.Below
import Derived.HandedShaped
import Derived.Lib.SmallJoins
namespace Go.Proofs.Ytncbfkoldllbpaa
open Go.ChangeShapes Go.WideShapes Go.ChangeAt Go.RowKit Go.Joins

theorem own_knob : ownKnob Try.prog.godebug = none := by kernel_rfl
theorem laid_out : laidOutB Try.prog = true := by kernel_rfl

theorem many_small {W : Wl} {K : Nat} : ∀ k, (∀ i, i < k → (W.sl i).length ≤ K) → manyTo W k ≤ k * K
  | 0, _ => Nat.zero_le _
  | k + 1, h => by
    have a := many_small k (fun i hi => h i (by omega))
    have b := h k (by omega)
    have e : manyTo W (k + 1) = manyTo W k + (W.sl k).length := rfl
    rw [e, Nat.succ_mul]
    omega

set_option maxRecDepth 100000 in
theorem any_lifted (P : P4) (os : Os) (started : os.Started) (H : Type) (enc : TypeId × Value → H) :
    ReturnsInHanded {} Try.checked os 3 .any (Rows.wheelAnySpec.pre6 enc Try.prog Try.f3 Rows.wheelAnyRow.domain false) (Rows.wheelAnySpec.post enc Try.prog Try.f3 false true false false) := by
  refine returnsInHanded_of_change_shaped (C := Try.checked) own_knob started (by kernel_rfl) Try.func3
    (ChangeSpec.witness6 (enc := enc) (C := Try.checked) false ⟨#[], #[.agg #[.int .i64 0, .slice none 0 0, .slice none 0 0, .slice none 0 0, .slice none 0 0, .slice none 0 0, .slice none 0 0, .slice none 0 0, .slice none 0 0], .int .i64 0, .int .i64 0], []⟩ 8 (by kernel_rfl) (by kernel_rfl) (by kernel_rfl) (by kernel_rfl)) ?_
  intro W base args ds gs before hval0 hW hcnd hsz0 hsh _
  have hval : ∀ (j : Nat) t v, Try.f3.params[j]? = some t → args[j]? = some v → Value.okWide Try.prog W .any base t v := hval0
  have hW' := hW
  obtain ⟨p, q, hA0, hV, rfl, hfz, hnd⟩ := hW
  have hA : DataW.TrodAll enc Try.prog W 0 (fun _ => true) true Try.f3.params.toList args.toList ds p := hA0
  rw [Try.params3] at hA hval
  obtain ⟨v0, vs0, d0, ds0, p0, q0, hargs, rfl, rfl, h0, r0⟩ := trodAll_cons hA
  obtain ⟨v1, vs1, d1, ds1, p1, q1, rfl, rfl, rfl, h1, r1⟩ := trodAll_cons r0
  obtain ⟨v2, vs2, d2, ds2, p2, q2, rfl, rfl, rfl, h2, r2⟩ := trodAll_cons r1
  obtain ⟨rfl, rfl, rfl⟩ := trodAll_nil r2
  obtain rfl : args = #[v0, v1, v2] := by cases args; simp_all
  obtain ⟨rfl, rfl⟩ := trodVars_none hV
  have k0 := h0
  have lt0 : ∀ x ∈ p0, x.block < W.heap.size := by obtain ⟨m, hm⟩ := k0; exact DataW.trod_lt m _ _ _ hm
  obtain ⟨V, S, rfl, hat, hwf, hwt⟩ := open_wheel (hval 0 25 v0 rfl rfl) h0
  obtain ⟨id, rfl, rfl, rfl, wi⟩ := open_int Try.underlying3 (hval 1 3 v1 rfl rfl) h1
  obtain ⟨at_, rfl, rfl, rfl, wa⟩ := open_int Try.underlying3 (hval 2 3 v2 rfl rfl) h2
  have hsz : (DataW.weightsEach Try.prog (Try.f3.params.toList ++ (OpenSpec.ofChange Rows.wheelAnySpec).bare.plain.varTypes Try.prog) ([d0, .lit (.int .i64 id), .lit (.int .i64 at_)] ++ [])).all (· ≤ reachBytes) = true := hsz0
  have hw0 : (d0.weights Try.prog 25).all (· ≤ reachBytes) = true := by
    rw [Try.params3] at hsz
    simp only [List.cons_append, List.nil_append, DataW.weightsEach, List.all_append, Bool.and_eq_true] at hsz
    exact hsz.1
  clear hA0 hval0
  have hmany : manyN V ≤ 9007199254740992 := by
    have := many_small (W := V) (K := reachBytes) 8 fun i hi => by have h1 := hwt hw0 i hi; have h2 := hat.len i hi; omega
    unfold manyN
    have e : reachBytes = 140737488351232 := rfl
    omega
  refine (any_any P V S id at_ W hat hwf hmany (bounds_i64 wi) (bounds_i64 wa)).mono fun e W' ⟨he, bel⟩ => ?_
  subst he
  exact ⟨_, rfl, _, _, _, [], _, [], hW', trodAll_mk1 (shut_bool Try.underlying4 _), (trodAll_cons_mk (Below.trod laid_out (by kernel_rfl) (of_decide_eq_true (by kernel_rfl)) k0 bel lt0) (trodAll_cons_mk (shut_int Try.underlying3 wi) (trodAll_cons_mk (shut_int Try.underlying3 wa) trodAll_mk0))), rfl, bel.frame _, fun h => by cases h⟩

theorem wheel_any_holds (P : P4) : Rows.WheelAnySaid :=
  OpenClaim.holds_of_wide 3 Try.f3 rfl rfl rfl rfl rfl rfl rfl ⟨rfl, rfl, rfl, rfl, rfl⟩ rfl rfl rfl rfl rfl (by kernel_rfl) Try.func3 (by kernel_rfl)
    (of_decide_eq_true (by kernel_rfl)) (by unfold Func.isWrapper; first | (rw [if_pos (by decide +kernel)]; kernel_rfl) | (rw [if_neg (by decide +kernel)]; exact ⟨rfl, rfl⟩))
    (fun os started H enc _ => any_lifted P os started H enc)

end Go.Proofs.Ytncbfkoldllbpaa
