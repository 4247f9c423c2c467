/-
  The walks of quote's own readPoint, meanings, readEscape, read.
-/
import Derived.Test.YtmogeehhlfjlcaaDoorQo
namespace Go.Proofs.YtmogeehhlfjlcaaDoor
open Go.RowKit

/-- a code point (none: 0) and how many bytes it takes -/
def TwoEnds (q : Nat × Nat) (w : World) (e : Ending) (w' : World) : Prop := e = .returned (.tuple #[.int .i32 (q.1 : Int), .int .i64 (q.2 : Int)]) ∧ w' = w
set_option maxRecDepth 100000 in
set_option maxHeartbeats 2000000 in
theorem readPoint_any (l : Bs) (hl : l.length ≤ 1000000) (w : World) : Calls Tryd.prog 32 #[.string (tb l)] w (TwoEnds (ptR l) w) := by
  have HA := Lib.hid (fun W => point_any l hl W)
  have zl : (tb l).size = l.length := tb_size l
  unfold ptR
  cases h1 : ptL l with
  | none =>
    rw [h1] at HA
    go_enter Tryd.func32, Tryd.ntmps32
    go_wp2_with fail
    refine (HA.out _).mono ?_
    rintro e w1 ⟨rfl, hw⟩
    cases hw
    go_wp2
    refine bodyPost_ret (v := .tuple #[.int .i32 0, .int .i64 0]) (by simp [results, Tryd.results32, go_sem]) rfl ?_
    exact ⟨rfl, rfl⟩
  | some n =>
    rw [h1] at HA
    obtain ⟨g1, g2, _⟩ := pt_good h1
    clear h1
    have HA2 : Hid (∀ W, Calls Tryd.prog 38 #[.string (tb l)] W (fun e w' => e = .returned (.tuple #[.int .i32 (n : Int), .bool true]) ∧ w' = W)) := HA
    clear HA
    simp only
    by_cases c1 : n < 55296
    · rw [if_pos (.inl c1)]
      have c1i : (n : Int) < 55296 := by omega
      go_enter Tryd.func32, Tryd.ntmps32
      go_wp2_with fail
      refine (HA2.out _).mono ?_
      rintro e w1 ⟨rfl, hw⟩
      cases hw
      go_wp2
      refine bodyPost_ret (v := .tuple #[.int .i32 (n : Int), .int .i64 6]) (by simp [results, Tryd.results32, go_sem]) rfl ?_
      exact ⟨rfl, rfl⟩
    · have c1i : ¬ (n : Int) < 55296 := by omega
      by_cases c2 : 57344 ≤ n
      · rw [if_pos (.inr c2)]
        have c2i : (57344 : Int) ≤ (n : Int) := by omega
        go_enter Tryd.func32, Tryd.ntmps32
        go_wp2_with fail
        refine (HA2.out _).mono ?_
        rintro e w1 ⟨rfl, hw⟩
        cases hw
        go_wp2
        refine bodyPost_ret (v := .tuple #[.int .i32 (n : Int), .int .i64 6]) (by simp [results, Tryd.results32, go_sem]) rfl ?_
        exact ⟨rfl, rfl⟩
      · have c2i : ¬ (57344 : Int) ≤ (n : Int) := by omega
        rw [if_neg (by omega)]
        have hx : (tb l).extract 6 (tb l).size = tb (l.drop 6) := by rw [tb_ext, tb_size, List.take_length]
        rw [zl] at hx
        have h6 : (6 : Int) ≤ (l.length : Int) := by omega
        have HB := Lib.hid (fun W => point_any (l.drop 6) (by rw [List.length_drop]; omega) W)
        obtain ⟨o, ho⟩ : ∃ o, ptL (l.drop 6) = o := ⟨_, rfl⟩
        have hom : ∀ m, o = some m → m < 65536 := fun m hm => (pt_good (ho.trans hm)).1
        rw [ho] at HB ⊢
        clear ho g2
        have HC1 := Lib.hid c1
        have HC2 := Lib.hid c2
        clear c1 c2
        cases o with
        | none =>
          have HB2 : Hid (∀ W, Calls Tryd.prog 38 #[.string (tb (l.drop 6))] W (fun e w' => e = .returned (.tuple #[.int .i32 0, .bool false]) ∧ w' = W)) := HB
          clear HB hom g1 hl
          simp only
          have HE : Hid (TwoEnds (0, 0) w (.returned (.tuple #[.int .i32 0, .int .i64 0])) w) := Lib.hid ⟨rfl, rfl⟩
          generalize (n : Int) = z at *
          go_enter Tryd.func32, Tryd.ntmps32
          go_wp2_with fail
          refine (HA2.out _).mono ?_
          rintro e w1 ⟨rfl, hw⟩
          cases hw
          go_wp2_with fail
          refine (HB2.out _).mono ?_
          rintro e w2 ⟨rfl, hw⟩
          cases hw
          go_wp2
          refine bodyPost_ret (v := .tuple #[.int .i32 0, .int .i64 0]) (by simp [results, Tryd.results32, go_sem]) rfl ?_
          exact HE.out
        | some m =>
          have HB2 : Hid (∀ W, Calls Tryd.prog 38 #[.string (tb (l.drop 6))] W (fun e w' => e = .returned (.tuple #[.int .i32 (m : Int), .bool true]) ∧ w' = W)) := HB
          have hm := hom m rfl
          clear HB hom
          simp only
          have key : ∀ (q : Nat × Nat), (56320 ≤ n → q = (0, 0)) → (¬ 56320 ≤ n → m < 56320 → q = (0, 0)) → (¬ 56320 ≤ n → ¬ m < 56320 → 57344 ≤ m → q = (0, 0)) → (¬ 56320 ≤ n → ¬ m < 56320 → ¬ 57344 ≤ m → q = (65536 + (n - 55296) * 1024 + m - 56320, 12)) → Calls Tryd.prog 32 #[.string (tb l)] w (TwoEnds q w) := by
            intro q k1 k2 k3 k4
            have c1 := HC1.out
            have c2 := HC2.out
            clear HC1 HC2
            have HE : Hid (TwoEnds (0, 0) w (.returned (.tuple #[.int .i32 0, .int .i64 0])) w) := Lib.hid ⟨rfl, rfl⟩
            by_cases d1 : 56320 ≤ n
            · rw [k1 d1]
              have d1i : (56320 : Int) ≤ (n : Int) := by omega
              clear k1 k2 k3 k4 hm g1 hl d1 c1 c2
              generalize (n : Int) = z at *
              generalize (m : Int) = y at *
              go_enter Tryd.func32, Tryd.ntmps32
              go_wp2_with fail
              refine (HA2.out _).mono ?_
              rintro e w1 ⟨rfl, hw⟩
              cases hw
              go_wp2_with fail
              refine (HB2.out _).mono ?_
              rintro e w2 ⟨rfl, hw⟩
              cases hw
              go_wp2
              refine bodyPost_ret (v := .tuple #[.int .i32 0, .int .i64 0]) (by simp [results, Tryd.results32, go_sem]) rfl ?_
              exact HE.out
            · have d1i : ¬ (56320 : Int) ≤ (n : Int) := by omega
              by_cases d2 : m < 56320
              · rw [k2 d1 d2]
                have d2i : (m : Int) < 56320 := by omega
                clear k1 k2 k3 k4 hm g1 hl d1 d2 c1 c2
                generalize (n : Int) = z at *
                generalize (m : Int) = y at *
                go_enter Tryd.func32, Tryd.ntmps32
                go_wp2_with fail
                refine (HA2.out _).mono ?_
                rintro e w1 ⟨rfl, hw⟩
                cases hw
                go_wp2_with fail
                refine (HB2.out _).mono ?_
                rintro e w2 ⟨rfl, hw⟩
                cases hw
                go_wp2
                refine bodyPost_ret (v := .tuple #[.int .i32 0, .int .i64 0]) (by simp [results, Tryd.results32, go_sem]) rfl ?_
                exact HE.out
              · have d2i : ¬ (m : Int) < 56320 := by omega
                by_cases d3 : 57344 ≤ m
                · rw [k3 d1 d2 d3]
                  have d3i : (57344 : Int) ≤ (m : Int) := by omega
                  clear k1 k2 k3 k4 hm g1 hl d1 d2 d3 c1 c2
                  generalize (n : Int) = z at *
                  generalize (m : Int) = y at *
                  go_enter Tryd.func32, Tryd.ntmps32
                  go_wp2_with fail
                  refine (HA2.out _).mono ?_
                  rintro e w1 ⟨rfl, hw⟩
                  cases hw
                  go_wp2_with fail
                  refine (HB2.out _).mono ?_
                  rintro e w2 ⟨rfl, hw⟩
                  cases hw
                  go_wp2
                  refine bodyPost_ret (v := .tuple #[.int .i32 0, .int .i64 0]) (by simp [results, Tryd.results32, go_sem]) rfl ?_
                  exact HE.out
                · rw [k4 d1 d2 d3]
                  have d3i : ¬ (57344 : Int) ≤ (m : Int) := by omega
                  obtain ⟨R, hR⟩ : ∃ R, 65536 + (n - 55296) * 1024 + m - 56320 = R := ⟨_, rfl⟩
                  rw [hR]
                  have v1 : IntKind.i32.wrap ((n : Int) - 55296) = (n : Int) - 55296 := IntWalk.i32_in _ (by omega)
                  have v2 : IntKind.i32.wrap (((n : Int) - 55296) * 1024) = ((n : Int) - 55296) * 1024 := IntWalk.i32_in _ (by omega)
                  have v3 : IntKind.i32.wrap (65536 + ((n : Int) - 55296) * 1024) = 65536 + ((n : Int) - 55296) * 1024 := IntWalk.i32_in _ (by omega)
                  have v4 : IntKind.i32.wrap (65536 + ((n : Int) - 55296) * 1024 + (m : Int)) = 65536 + ((n : Int) - 55296) * 1024 + (m : Int) := IntWalk.i32_in _ (by omega)
                  have v5 : IntKind.i32.wrap (65536 + ((n : Int) - 55296) * 1024 + (m : Int) - 56320) = (R : Int) := by rw [IntWalk.i32_in _ (by omega)]; omega
                  have HE2 : Hid (TwoEnds (R, 12) w (.returned (.tuple #[.int .i32 (R : Int), .int .i64 12])) w) := Lib.hid ⟨rfl, rfl⟩
                  clear k1 k2 k3 k4 hm g1 hl d1 d2 d3 c1 c2 hR HE
                  generalize (n : Int) = z at *
                  generalize (m : Int) = y at *
                  generalize (R : Int) = x at *
                  go_enter Tryd.func32, Tryd.ntmps32
                  go_wp2_with fail
                  refine (HA2.out _).mono ?_
                  rintro e w1 ⟨rfl, hw⟩
                  cases hw
                  go_wp2_with fail
                  refine (HB2.out _).mono ?_
                  rintro e w2 ⟨rfl, hw⟩
                  cases hw
                  go_wp2
                  refine bodyPost_ret (v := .tuple #[.int .i32 x, .int .i64 12]) (by simp [results, Tryd.results32, go_sem]) rfl ?_
                  exact HE2.out
          refine key _ (fun h => if_pos (.inl h)) (fun _ h => if_pos (.inr (.inl h))) (fun _ _ h => if_pos (.inr (.inr h))) (fun h1 h2 h3 => if_neg (by have := HC1.out; have := HC2.out; omega))
end Go.Proofs.YtmogeehhlfjlcaaDoor
