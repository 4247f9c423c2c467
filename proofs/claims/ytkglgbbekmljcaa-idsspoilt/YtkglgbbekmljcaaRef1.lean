/-
  The walk of the document's own Right.
-/
import Derived.Test.YtkglgbbekmljcaaSlots
namespace Go.Proofs.Ytkglgbbekmljcaa
open Go.RowKit

theorem bad_gens {T : Tb} {k : Nat} (hk : k < T.gens.length) (h : inG (gd T.gens k) = false) : okT T = false := by
  rw [← Bool.not_eq_true]
  intro hh
  obtain ⟨_, _, _, h4, _⟩ := ok_true hh
  have := h4 k hk
  simp [inG] at h
  omega
theorem bad_free {T : Tb} {i : Nat} (hi : i < T.free.length) (h : ¬ Fr T.busy T.free T.gens.length i) : okT T = false := by
  rw [← Bool.not_eq_true]
  intro hh
  obtain ⟨_, _, _, _, h5⟩ := ok_true hh
  exact h (((perm_iff_each _ _ _).1 h5).1 i hi)
theorem bad_size {T : Tb} (h : sizedT T = false) : okT T = false := by simp [okT, h]

section
variable {Ag Ab Af : Option Addr} {N cg M cb F cf : Nat} {T : Tb} {w : World}

set_option maxHeartbeats 1000000 in
theorem rright_small (h : At w T Ag N cg Ab M cb Af F cf) (hs : sizedT T = false) :
    Calls Try.prog 19 #[tv Ag N cg Ab M cb Af F cf] w fun e w' => e = .returned (.bool false) ∧ Below w.heap.size w w' := by
  have hN := h.hN
  have hM := h.hM
  have hs' : N < 1 ∨ (1 ≤ N ∧ 64 < N) ∨ (1 ≤ N ∧ N ≤ 64 ∧ M ≠ N) := by
    simp [sizedT, h.lg, h.lb] at hs
    omega
  clear h hs
  unfold tv
  rcases hs' with h1 | ⟨h1, h2⟩ | ⟨h1, h2, h3⟩
  · have h1' : (N : Int) < 1 := by omega
    go_enter Try.func19, Try.ntmps19
    go_wp2
    go_ret
    exact ⟨rfl, ba1 _ _⟩
  · have h1' : ¬ (N : Int) < 1 := by omega
    have h2' : (64 : Int) < N := by omega
    go_enter Try.func19, Try.ntmps19
    go_wp2
    go_ret
    exact ⟨rfl, ba1 _ _⟩
  · have h1' : ¬ (N : Int) < 1 := by omega
    have h2' : ¬ (64 : Int) < N := by omega
    have h3' : ¬ (M : Int) = N := by omega
    go_enter Try.func19, Try.ntmps19
    go_wp2
    go_ret
    exact ⟨rfl, ba1 _ _⟩

set_option maxRecDepth 100000 in
set_option maxHeartbeats 4000000 in
theorem rright_sized (h : At w T Ag N cg Ab M cb Af F cf) (hs : sizedT T = true) :
    Calls Try.prog 19 #[tv Ag N cg Ab M cb Af F cf] w fun e w' => e = .returned (.bool (okT T)) ∧ Below w.heap.size w w' := by
  have hs' : 1 ≤ N ∧ N ≤ 64 ∧ M = N := by
    simp [sizedT, h.lg, h.lb] at hs
    omega
  obtain ⟨h1, h2, rfl⟩ := hs'
  have hF := h.hF
  have HH := Lib.hid h
  have HS := Lib.hid hs
  clear h hs
  have h1' : ¬ (M : Int) < 1 := by omega
  have h2' : ¬ (64 : Int) < M := by omega
  unfold tv
  go_enter Try.func19, Try.ntmps19
  go_wp2_with fail
  go_loopw [5, 4] (fun i m wr => ∃ (k n : Nat), k ≤ M ∧ n ≤ k ∧ i = .int .i64 (k : Int) ∧ m = .int .i64 (n : Int) ∧ Hid (n = wants T.busy k ∧ ∀ j, j < k → inG (gd T.gens j) = true) ∧ wr = w.alloc (.cells #[.slice Ag M cg, .slice Ab M cb, .slice Af F cf] 25))
    (fun i _ _ => M - (intOf i).toNat)
  case atStart => exact ⟨0, 0, Nat.zero_le _, Nat.le_refl _, rfl, rfl, Lib.hid ⟨rfl, fun j hj => absurd hj (by omega)⟩, rfl⟩
  case round =>
    obtain ⟨k, n, hk, hnk, rfl, rfl, HR, rfl⟩ := hrel
    have hA := HH.out.up (ba1 w (.cells #[.slice Ag M cg, .slice Ab M cb, .slice Af F cf] 25))
    by_cases hlt : k < M
    · obtain ⟨b, o, rfl, hb, hc⟩ := Is.at hA.g (k := k) (by rw [HH.out.lg]; exact hlt)
      obtain ⟨b', o', rfl, hb', hc'⟩ := Bl.at hA.b (k := k) (by rw [HH.out.lb]; exact hlt)
      obtain ⟨x, hx⟩ : ∃ x, gd T.gens k = x := ⟨_, rfl⟩
      rw [hx] at hc
      have HX := Lib.hid hx
      have HA := Lib.hid hA
      clear hx hA
      by_cases h0 : x < 0
      · have HE : Hid (okT T = false) := Lib.hid (bad_gens (k := k) (by rw [HH.out.lg]; exact hlt) (by rw [HX.out]; simp [inG]; omega))
        go_wp2
        go_ret
        exact ⟨ret_bool HE.out.symm, ba1 _ _⟩
      · by_cases h9 : 9007199254740992 < x
        · have HE : Hid (okT T = false) := Lib.hid (bad_gens (k := k) (by rw [HH.out.lg]; exact hlt) (by rw [HX.out]; simp [inG]; omega))
          go_wp2
          go_ret
          exact ⟨ret_bool HE.out.symm, ba1 _ _⟩
        · have HG : Hid (∀ j, j < k + 1 → inG (gd T.gens j) = true) := Lib.hid (fun j hj => by
            by_cases hjk : j < k
            · exact HR.out.2 j hjk
            · have : j = k := by omega
              subst this
              rw [HX.out]
              simp [inG]
              omega)
          cases hbd : bd T.busy k with
          | true =>
            rw [hbd] at hc'
            have HD := Lib.hid hbd
            clear hbd
            go_wp2
            go_roundw
            case rel => exact ⟨k + 1, n, by omega, by omega, by go_num, by go_num, Lib.hid ⟨by simp only [wants, HD.out, HR.out.1]; rfl, HG.out⟩, trivial⟩
            case measure => simp [intOf]; omega
          | false =>
            rw [hbd] at hc'
            have HD := Lib.hid hbd
            clear hbd
            go_wp2
            go_roundw
            case rel => exact ⟨k + 1, n + 1, by omega, by omega, by go_num, by go_num, Lib.hid ⟨by simp only [wants, HD.out, HR.out.1]; rfl, HG.out⟩, trivial⟩
            case measure => simp [intOf]; omega
    · have : k = M := by omega
      subst this
      have HA := Lib.hid hA
      clear hA
      have hw0 := ba1 w (.cells #[.slice Ag k cg, .slice Ab k cb, .slice Af F cf] 25)
      have b0 := Box.new w 25 #[.slice Ag k cg, .slice Ab k cb, .slice Af F cf]
      generalize w.alloc (.cells #[.slice Ag k cg, .slice Ab k cb, .slice Af F cf] 25) = W0 at *
      have HW0 := Lib.hid hw0
      have HB0 := Lib.hid b0
      clear hw0 b0
      go_wp2_with fail
      go_loopw [6] (fun i wr => ∃ q : Nat, q ≤ F ∧ i = .int .i64 (q : Int) ∧ Hid (∀ j, j < q → Fr T.busy T.free k j) ∧ Below W0.heap.size W0 wr)
        (fun i _ => F - (intOf i).toNat)
      case atStart => exact ⟨0, Nat.zero_le _, rfl, Lib.hid (fun j hj => absurd hj (by omega)), Below.refl _ _⟩
      case round =>
        obtain ⟨q, hq, rfl, HQ, hbw⟩ := hrel
        obtain ⟨⟨c0, c1, c2⟩, _⟩ := (HB0.out.up hbw).three
        by_cases hlt : q < F
        · obtain ⟨bf, of, rfl, hbf, hcf⟩ := Is.at (HA.out.up hbw).f (k := q) (by rw [HH.out.lf]; exact hlt)
          have hcs : ∀ j, j < F → wr.cell? ⟨bf, of + j, none⟩ = some (.int .i64 (gd T.free j)) := by
            intro j hj
            obtain ⟨b2, o2, e2, _, h3⟩ := Is.at (HA.out.up hbw).f (k := j) (by rw [HH.out.lf]; exact hj)
            injection e2 with e2
            injection e2 with e3 e4
            subst e3 e4
            exact h3
          have HCS := Lib.hid hcs
          obtain ⟨x, hx⟩ : ∃ x, gd T.free q = x := ⟨_, rfl⟩
          rw [hx] at hcf
          have HX := Lib.hid hx
          have HBW := Lib.hid hbw
          clear hx hcs hbw
          have hlf : q < T.free.length := by rw [HH.out.lf]; exact hlt
          have HLF := Lib.hid hlf
          clear hlf
          by_cases h0 : x < 0
          · have hd : decide (x < 0) = true := by simpa using h0
            have HE : Hid (okT T = false) := Lib.hid (bad_free HLF.out (fun hh => by have := hh.1; rw [HX.out] at this; omega))
            go_wp2_with fail
            go_quiet (fail)
            go_wp2
            go_ret
            exact ⟨ret_bool HE.out.symm, HW0.out.trans (below_drewN (HBW.out.mono HW0.out.size) _)⟩
          · have hd : decide (x < 0) = false := by simpa using h0
            by_cases h3 : (k : Int) ≤ x
            · have hd3 : decide ((k : Int) ≤ x) = true := by simpa using h3
              have HE : Hid (okT T = false) := Lib.hid (bad_free HLF.out (fun hh => by have := hh.2.1; rw [HX.out, HH.out.lg] at this; omega))
              go_wp2_with fail
              go_quiet (fail)
              go_wp2
              go_ret
              exact ⟨ret_bool HE.out.symm, HW0.out.trans (below_drewN (HBW.out.mono HW0.out.size) _)⟩
            · have hd3 : decide ((k : Int) ≤ x) = false := by simpa using h3
              obtain ⟨s, rfl⟩ := Int.eq_ofNat_of_zero_le (show 0 ≤ x by omega)
              have hs2 : s < k := by omega
              obtain ⟨bb, ob, rfl, hbb, hcb⟩ := Bl.at (HA.out.up HBW.out).b (k := s) (by rw [HH.out.lb]; exact hs2)
              cases hbd : bd T.busy s with
              | true =>
                rw [hbd] at hcb
                have HE : Hid (okT T = false) := Lib.hid (bad_free HLF.out (fun hh => by have := hh.2.2.1; rw [HX.out] at this; simp only [Int.toNat_natCast] at this; rw [hbd] at this; cases this))
                clear hbd
                go_wp2_with fail
                go_quiet (fail)
                go_wp2
                go_ret
                exact ⟨ret_bool HE.out.symm, HW0.out.trans (below_drewN (HBW.out.mono HW0.out.size) _)⟩
              | false =>
                rw [hbd] at hcb
                have HD := Lib.hid hbd
                clear hbd
                go_wp2_with fail
                go_quiet (fail)
                go_wp2_with fail
                clear c0 c1 c2 hcf hcb HCS
                go_loopw [7] (fun i w' => ∃ j : Nat, j ≤ q ∧ i = .int .i64 (j : Int) ∧ Hid (∀ t, t < j → gd T.free t ≠ (s : Int)) ∧ Hid (Below W0.heap.size W0 w'))
                  (fun i _ => q - (intOf i).toNat)
                case atStart => exact ⟨0, Nat.zero_le _, rfl, Lib.hid (fun t ht => absurd ht (by omega)), Lib.hid (below_drewN HBW.out _)⟩
                case round =>
                  obtain ⟨j, hj, rfl, HJ, HB2⟩ := hrel
                  obtain ⟨⟨c0, c1, c2⟩, _⟩ := (HB0.out.up HB2.out).three
                  by_cases hjl : j < q
                  · obtain ⟨b2, o2, e2, _, hc1⟩ := Is.at (HA.out.up HB2.out).f (k := j) (by rw [HH.out.lf]; omega)
                    obtain ⟨b3, o3, e3, _, hc2⟩ := Is.at (HA.out.up HB2.out).f (k := q) (by rw [HH.out.lf]; omega)
                    simp only [Option.some.injEq, Addr.mk.injEq, and_true] at e2 e3
                    obtain ⟨rfl, rfl⟩ := e2
                    obtain ⟨rfl, rfl⟩ := e3
                    rw [HX.out] at hc2
                    by_cases heq : gd T.free j = (s : Int)
                    · rw [heq] at hc1
                      have HE : Hid (okT T = false) := Lib.hid (bad_free HLF.out (fun hh => hh.2.2.2 j hjl (by rw [heq, HX.out])))
                      clear heq
                      go_wp2_with fail
                      go_quiet (fail)
                      go_wp2
                      go_ret
                      exact ⟨ret_bool HE.out.symm, HW0.out.trans (below_drewN (HB2.out.mono HW0.out.size) _)⟩
                    · have HN : Hid (∀ t, t < j + 1 → gd T.free t ≠ (s : Int)) := Lib.hid (fun t ht => by
                        by_cases h5 : t < j
                        · exact HJ.out t h5
                        · have : t = j := by omega
                          subst this
                          exact heq)
                      obtain ⟨y, hy⟩ : ∃ y, gd T.free j = y := ⟨_, rfl⟩
                      rw [hy] at hc1 heq
                      clear hy
                      have heq' : (y == (s : Int)) = false := by simpa using heq
                      go_wp2_with fail
                      go_quiet (fail)
                      go_wp2
                      go_roundw
                      case rel => exact ⟨j + 1, by omega, by go_num, HN, Lib.hid (below_drewN HB2.out _)⟩
                      case measure => simp [intOf]; omega
                  · have : j = q := by omega
                    subst this
                    have HF : Hid (∀ t, t < j + 1 → Fr T.busy T.free k t) := Lib.hid (fun t ht => by
                      by_cases h5 : t < j
                      · exact HQ.out t h5
                      · have : t = j := by omega
                        subst this
                        refine ⟨by rw [HX.out]; omega, by rw [HX.out]; omega, by rw [HX.out]; simpa using HD.out, fun u hu => by rw [HX.out]; exact HJ.out u hu⟩)
                    go_wp2
                    exact ⟨⟨j + 1, by omega, by go_num, HF, HB2.out⟩, by simp [intOf]; omega⟩
        · have : q = F := by omega
          subst this
          have HE : Hid (okT T = decide (n = q)) := Lib.hid (by
            rw [Bool.eq_iff_iff, decide_eq_true_iff]
            constructor
            · intro hh
              obtain ⟨_, _, _, _, h5⟩ := ok_true hh
              have := ((perm_iff_each _ _ _).1 h5).2
              rw [HH.out.lg, HH.out.lf] at this
              rw [HR.out.1, this]
            · intro hh
              have hz := HS.out
              have hp : T.free.Perm (nb T.busy T.gens.length) := (perm_iff_each _ _ _).2 ⟨fun i hi => by rw [HH.out.lg]; exact HQ.out i (by rw [← HH.out.lf]; exact hi), by rw [HH.out.lg, HH.out.lf, ← HR.out.1, hh]⟩
              simp only [okT, hz, Bool.true_and, Bool.and_eq_true, List.isPerm_iff]
              exact ⟨all_inG.2 (fun i hi => HR.out.2 i (by rw [← HH.out.lg]; exact hi)), hp⟩)
          go_wp2
          go_ret
          refine ⟨ret_bool ?_, HW0.out.trans (hbw.mono HW0.out.size)⟩
          rw [HE.out, Bool.eq_iff_iff]
          simp only [beq_iff_eq, decide_eq_true_eq]
          omega

theorem rright_any (h : At w T Ag N cg Ab M cb Af F cf) :
    Calls Try.prog 19 #[tv Ag N cg Ab M cb Af F cf] w fun e w' => e = .returned (.bool (okT T)) ∧ Below w.heap.size w w' := by
  cases hs : sizedT T with
  | false =>
    rw [bad_size hs]
    exact rright_small h hs
  | true => exact rright_sized h hs

end
end Go.Proofs.Ytkglgbbekmljcaa
