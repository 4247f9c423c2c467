/-
  The walk of the law FieldLists.
-/
import Derived.Test.YtlnekljbmfdgnaaDoorAwake
namespace Go.Proofs.YtlnekljbmfdgnaaDoor
open Go.RowKit

theorem take_mem {α : Type} {xs : List α} {k : Nat} {P : α → Prop} (h : ∀ x ∈ xs.take k, P x) {y : α} (hy : xs[k]? = some y) (hP : P y) : ∀ x ∈ xs.take (k + 1), P x := by
  intro x hx
  rw [List.take_add_one, hy, List.mem_append] at hx
  rcases hx with hx | hx
  · exact h x hx
  · obtain rfl : x = y := by simpa using hx
    exact hP

set_option maxRecDepth 100000 in
set_option maxHeartbeats 8000000 in
theorem lists_any (L N : Sli) (fs : List Fd) (ns : List ByteArray) (name : ByteArray) (w : World) (hL : Fs w L fs) (hN : Ss w N ns) (hLs : ∀ f ∈ fs, f.1.size ≤ 281474976710656 ∧ f.2.size ≤ 281474976710656) (hNs : ∀ y ∈ ns, y.size ≤ 281474976710656) (hm : name.size ≤ 281474976710656) :
    Calls Tryd.prog 6 #[L.v, N.v, .string name] w (BoolEnds true w) := by
  have HL := Lib.hid hL
  have HN := Lib.hid hN
  have HLs := Lib.hid hLs
  have HNs := Lib.hid hNs
  have HG : Hid (L.n ≤ 30 → N.n ≤ 30 → name.size ≤ 300 → (∀ f ∈ fs, f.1.size ≤ 300) → (∀ y ∈ ns, y.size ≤ 300) → ∀ W, Below w.heap.size w W →
      (Calls Tryd.prog 13 #[.slice L.A L.n L.c, .string name] W (SsEnds (getL fs name) W) ∧ Calls Tryd.prog 14 #[.slice L.A L.n L.c, .string name] W (SsEnds (getL fs name) W) ∧
        Calls Tryd.prog 16 #[.slice L.A L.n L.c, .slice N.A N.n N.c] W (FsEnds (dropL fs ns) W) ∧ Calls Tryd.prog 17 #[.slice L.A L.n L.c, .slice N.A N.n N.c] W (FsEnds (dropL fs ns) W))) :=
    Lib.hid (fun h1 h2 h3 h4 h5 W hb => ⟨get_any L fs name W (hL.up hb) (by omega) (fun f hf => by have := h4 f hf; omega) (by omega), rget_any L fs name W (hL.up hb) (by omega) (fun f hf => by have := h4 f hf; omega) (by omega),
      drop_any L N fs ns W (hL.up hb) (hN.up hb) (by omega) (by omega) (fun f hf => by have := h4 f hf; omega) (fun y hy => by have := h5 y hy; omega), rdrop_any L N fs ns W (hL.up hb) (hN.up hb) (by omega) (by omega) (fun f hf => by have := h4 f hf; omega) (fun y hy => by have := h5 y hy; omega)⟩)
  have hn1 := Nat.le_trans hL.le.1 hL.le.2
  have hn2 := Nat.le_trans hN.le.1 hN.le.2
  unfold maxLen at hn1 hn2
  have HLen : Hid (fs.length = L.n ∧ ns.length = N.n) := Lib.hid ⟨hL.len, hN.len⟩
  clear hL hN hLs hNs
  obtain ⟨A, n, c⟩ := L
  obtain ⟨A2, n2, c2⟩ := N
  simp only [Sli.v] at hn1 hn2 HLen HG ⊢
  go_enter Tryd.func6, Tryd.ntmps6
  go_wp2_with fail
  go_loopw [8, 7] (fun i s wr => ∃ (k m : Nat), k ≤ n ∧ m ≤ 1125899906842624 ∧ i = .int .i64 (k : Int) ∧ s = .int .i64 (m : Int) ∧ name.size ≤ m ∧ Hid (∀ f ∈ fs.take k, f.1.size ≤ m) ∧ Below w.heap.size w wr) (fun i _ _ => n - (intOf i).toNat)
  case atStart => exact ⟨0, name.size, Nat.zero_le _, by omega, rfl, rfl, Nat.le_refl _, Lib.hid (fun f hf => by simp at hf), Below.refl _ _⟩
  case round =>
    obtain ⟨k, m, hk, hmb, rfl, rfl, hnm, HM, hbw⟩ := hrel
    by_cases hgo : k < n ∧ m ≤ 300
    · obtain ⟨g1, g2⟩ := hgo
      obtain ⟨b, o, x, y, hA, hb, hx, c1, d1⟩ := (HL.out.up hbw).cell (k := k) g1
      simp only at hA
      subst hA
      obtain ⟨hxs, hys⟩ := HLs.out _ (List.mem_of_getElem? hx)
      simp only at hxs hys
      have HM2 : Hid (∀ f ∈ fs.take (k + 1), f.1.size ≤ m + x.size + y.size) := Lib.hid (take_mem (P := fun f : Fd => f.1.size ≤ m + x.size + y.size) (fun f hf => by have := HM.out f hf; omega) hx (by simp only; omega))
      clear hx HM
      have hki : (k : Int) < (n : Int) := by omega
      have hk0 : (0 : Int) ≤ (k : Int) := by omega
      have t1 : IntKind.i64.wrap ((m : Int) + (x.size : Int)) = (m : Int) + (x.size : Int) := IntWalk.i64_in _ (by omega)
      have t2 : IntKind.i64.wrap ((m : Int) + (x.size : Int) + (y.size : Int)) = (m : Int) + (x.size : Int) + (y.size : Int) := IntWalk.i64_in _ (by omega)
      go_wp2_with fail
      go_quiet (fail)
      go_wp2
      go_roundw
      case rel => exact ⟨k + 1, m + x.size + y.size, by omega, by omega, by go_num, by go_num, by omega, HM2, below_drewN hbw _⟩
      case measure => simp [intOf]; omega
    · have HF : Hid (m ≤ 300 → ∀ f ∈ fs, f.1.size ≤ 300) := Lib.hid (fun h f hf => by
        have hkn : k = n := by omega
        have h2 := HM.out
        rw [List.take_of_length_le (by rw [HLen.out.1]; omega)] at h2
        have := h2 f hf
        omega)
      have hcase : ¬ k < n ∨ (k < n ∧ ¬ m ≤ 300) := by omega
      clear hgo HM
      rcases hcase with g1 | ⟨g1, g2⟩
      · go_wp2_with fail
        rename World => W1
        go_loopw [9, 7] (fun i s wr => ∃ (q u : Nat), q ≤ n2 ∧ u ≤ 1125899906842624 ∧ m ≤ u ∧ i = .int .i64 (q : Int) ∧ s = .int .i64 (u : Int) ∧ Hid (∀ y ∈ ns.take q, y.size ≤ u) ∧ W1 = wr) (fun i _ _ => n2 - (intOf i).toNat)
        case atStart => exact ⟨0, m, Nat.zero_le _, by omega, Nat.le_refl _, rfl, rfl, Lib.hid (fun f hf => by simp at hf), rfl⟩
        case round =>
          obtain ⟨q, u, hq, hub, hmu, rfl, rfl, HU, rfl⟩ := hrel
          by_cases hgo2 : q < n2 ∧ u ≤ 300
          · obtain ⟨g3, g4⟩ := hgo2
            obtain ⟨b, o, x, hA, hb, hx, c1⟩ := (HN.out.up hbw).cell (k := q) g3
            simp only at hA
            subst hA
            have hxs := HNs.out _ (List.mem_of_getElem? hx)
            have HU2 : Hid (∀ y ∈ ns.take (q + 1), y.size ≤ u + x.size) := Lib.hid (take_mem (P := fun y : ByteArray => y.size ≤ u + x.size) (fun f hf => by have := HU.out f hf; omega) hx (by omega))
            clear hx HU
            have hqi : (q : Int) < (n2 : Int) := by omega
            have hq0 : (0 : Int) ≤ (q : Int) := by omega
            have t1 : IntKind.i64.wrap ((u : Int) + (x.size : Int)) = (u : Int) + (x.size : Int) := IntWalk.i64_in _ (by omega)
            go_wp2
            go_roundw
            case rel => exact ⟨q + 1, u + x.size, by omega, by omega, by omega, by go_num, by go_num, HU2, trivial⟩
            case measure => simp [intOf]; omega
          · by_cases hbad : 30 < n ∨ 30 < n2 ∨ 300 < u
            · have hcase2 : (¬ q < n2 ∨ (q < n2 ∧ ¬ u ≤ 300)) := by omega
              have hbad2 : 30 < n ∨ (¬ 30 < n ∧ 30 < n2) ∨ (¬ 30 < n ∧ ¬ 30 < n2 ∧ 300 < u) := by omega
              clear hgo2 hbad
              rcases hcase2 with g3 | ⟨g3, g4⟩
              all_goals
                rcases hbad2 with g5 | ⟨g5, g6⟩ | ⟨g5, g6, g7⟩
                all_goals
                  go_wp2_with fail
                  refine (awake_any _).mono ?_
                  rintro e w1 ⟨rfl, hb1⟩
                  go_wp2
                  go_ret
                  exact ⟨by rfl, bon hbw hb1⟩
            · have g5 : ¬ 30 < n := by omega
              have g6 : ¬ 30 < n2 := by omega
              have g7 : ¬ 300 < u := by omega
              have g3 : ¬ q < n2 := by omega
              have HU3 : Hid (∀ y ∈ ns, y.size ≤ 300) := Lib.hid (fun y hy => by
                have h2 := HU.out
                rw [List.take_of_length_le (by rw [HLen.out.2]; omega)] at h2
                have := h2 y hy
                omega)
              have HG2 := Lib.hid (HG.out (by omega) (by omega) (by omega) (HF.out (by omega)) HU3.out)
              clear hgo2 hbad HU
              go_wp2_with fail
              refine (awake_any _).mono ?_
              rintro e w1 ⟨rfl, hb1⟩
              have hc1 := bon hbw hb1
              go_wp2_with fail
              refine (HG2.out _ hc1).1.mono ?_
              rintro e w2 ⟨S2, rfl, hS2, hb2⟩
              have hc2 := bon hc1 hb2
              go_wp2_with fail
              refine (HG2.out _ hc2).2.1.mono ?_
              rintro e w3 ⟨S3, rfl, hS3, hb3⟩
              have hc3 := bon hc2 hb3
              have HSt := Lib.hid (strings_same S2 S3 _ w3 (hS2.up hb3) hS3)
              simp only [Sli.v] at HSt
              clear hS2 hS3
              go_wp2_with fail
              refine HSt.out.mono ?_
              rintro e w4 ⟨rfl, hb4⟩
              have hc4 := bon hc3 hb4
              go_wp2_with fail
              refine (HG2.out _ hc4).2.2.1.mono ?_
              rintro e w5 ⟨S5, rfl, hS5, hb5⟩
              have hc5 := bon hc4 hb5
              go_wp2_with fail
              refine (HG2.out _ hc5).2.2.2.mono ?_
              rintro e w6 ⟨S6, rfl, hS6, hb6⟩
              have hc6 := bon hc5 hb6
              have HSm := Lib.hid (same_same S5 S6 _ w6 (hS5.up hb6) hS6)
              simp only [Sli.v] at HSm
              clear hS5 hS6
              go_wp2_with fail
              refine HSm.out.mono ?_
              rintro e w7 ⟨rfl, hb7⟩
              go_wp2
              go_ret
              exact ⟨by rfl, bon hc6 hb7⟩
      · go_wp2_with fail
        rename World => W1
        go_loopw [9, 7] (fun i s wr => ∃ (q u : Nat), q ≤ n2 ∧ u ≤ 1125899906842624 ∧ m ≤ u ∧ i = .int .i64 (q : Int) ∧ s = .int .i64 (u : Int) ∧ Hid (∀ y ∈ ns.take q, y.size ≤ u) ∧ W1 = wr) (fun i _ _ => n2 - (intOf i).toNat)
        case atStart => exact ⟨0, m, Nat.zero_le _, by omega, Nat.le_refl _, rfl, rfl, Lib.hid (fun f hf => by simp at hf), rfl⟩
        case round =>
          obtain ⟨q, u, hq, hub, hmu, rfl, rfl, HU, rfl⟩ := hrel
          by_cases hgo2 : q < n2 ∧ u ≤ 300
          · exfalso; omega
          · by_cases hbad : 30 < n ∨ 30 < n2 ∨ 300 < u
            · have hcase2 : (¬ q < n2 ∨ (q < n2 ∧ ¬ u ≤ 300)) := by omega
              have hbad2 : 30 < n ∨ (¬ 30 < n ∧ 30 < n2) ∨ (¬ 30 < n ∧ ¬ 30 < n2 ∧ 300 < u) := by omega
              clear hgo2 hbad
              rcases hcase2 with g3 | ⟨g3, g4⟩
              all_goals
                rcases hbad2 with g5 | ⟨g5, g6⟩ | ⟨g5, g6, g7⟩
                all_goals
                  go_wp2_with fail
                  refine (awake_any _).mono ?_
                  rintro e w1 ⟨rfl, hb1⟩
                  go_wp2
                  go_ret
                  exact ⟨by rfl, bon hbw hb1⟩
            · exfalso; omega

end Go.Proofs.YtlnekljbmfdgnaaDoor
