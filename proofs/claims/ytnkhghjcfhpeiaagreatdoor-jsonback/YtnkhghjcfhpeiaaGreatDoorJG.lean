/-
  The law JsonBack, over the laws' own Value as it is.
-/
import Derived.Test.YtnkhghjcfhpeiaaGreatDoorJF
namespace Go.Proofs.YtnkhghjcfhpeiaaGreatDoor
open Go.RowKit

theorem right_mono : ∀ (d : Nat) (v : Jv), rightF d v = true → rightF (d + 1) v = true
  | 0, v, h => by
    unfold rightF at h
    cases h
  | d + 1, .mk k t ks vs, h => by
    have hm : vs.all (rightF d) = true → vs.all (rightF (d + 1)) = true := fun q => List.all_eq_true.2 fun v hv => right_mono d v (List.all_eq_true.1 q v hv)
    rw [rightF] at h ⊢
    rw [Bool.and_eq_true] at h ⊢
    refine ⟨h.1, ?_⟩
    have h2 := h.2
    by_cases h3 : k = 1 ∨ k = 2 ∨ k = 3
    · rw [if_pos h3]
    rw [if_neg h3] at h2 ⊢
    by_cases h4 : k = 4
    · rw [if_pos h4] at h2 ⊢
      exact h2
    rw [if_neg h4] at h2 ⊢
    by_cases h5 : k = 5
    · rw [if_pos h5] at h2 ⊢
      exact h2
    rw [if_neg h5] at h2 ⊢
    by_cases h6 : k = 6
    · rw [if_pos h6] at h2 ⊢
      exact hm h2
    rw [if_neg h6] at h2 ⊢
    by_cases h7 : k = 7
    · rw [if_pos h7] at h2 ⊢
      simp only [Bool.and_eq_true] at h2 ⊢
      exact ⟨⟨⟨h2.1.1.1, hm h2.1.1.2⟩, h2.1.2⟩, h2.2⟩
    · rw [if_neg h7] at h2
      cases h2
theorem right_up (v : Jv) : ∀ (n d : Nat), rightF d v = true → rightF (d + n) v = true
  | 0, _, h => h
  | n + 1, d, h => right_mono (d + n) v (right_up v n d h)
theorem made_good {v : Jv} (h : MadeJ 4 v) : GoodJ v := by
  obtain ⟨h1, h2, h3⟩ := h
  have e : lenJ 4 = 1527 := rfl
  have e2 : nodJ 4 = 121 := rfl
  refine ⟨?_, by omega⟩
  unfold rightJ
  rw [decide_eq_true (by omega : nodesJ v ≤ 500), Bool.true_and]
  exact right_up v 11 5 h1
/-- Value tells what JsonBack asks -/
theorem jvl_any (A : Option Addr) (L c : Nat) (ys : List UInt8) (hl : ys.length = L) (hm : L ≤ maxLen) : JVl A L c ys := by
  intro gm w hU hbx
  refine (jfvalue_any A L c ys hl hm 4 gm 0 w (Nat.le_refl _) (by omega) (by decide) hU hbx).mono ?_
  rintro E w' ⟨v, K, S, ix', rfl, hmd, hv, hb, _, _, _⟩
  exact ⟨v, K, S, rfl, made_good hmd, JV.to (Keeps.same (fun _ _ _ => trivial)) _ _ hv, hb⟩
theorem jsonBack_all (hR : JPR) (hP : JPP) (hJ : JPJ) (hS : JPS) (A : Option Addr) (L c : Nat) (ys : List UInt8) (A2 : Option Addr) (L2 c2 : Nat) (ys2 : List UInt8) (hl : ys.length = L) (hm : L ≤ maxLen) (hl2 : ys2.length = L2) (hm2 : L2 ≤ maxLen) (w : World) (hU : Us w w.heap.size A ys) (hU2 : Us w w.heap.size A2 ys2) (hT : TJ w) : Calls Tryz.prog 5 #[.slice A L c, .slice A2 L2 c2] w (BoolEnds true w) :=
  jsonBack_any hR hP hJ hS A L c ys A2 L2 c2 ys2 (jvl_any A L c ys hl hm) (jvl_any A2 L2 c2 ys2 hl2 hm2) w hU hU2 hT
end Go.Proofs.YtnkhghjcfhpeiaaGreatDoor
