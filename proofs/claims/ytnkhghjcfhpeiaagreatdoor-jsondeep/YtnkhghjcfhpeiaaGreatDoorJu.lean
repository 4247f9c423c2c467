/-
  The document's digits and number, walked.
-/
import Derived.Test.YtnkhghjcfhpeiaaGreatDoorJJs
import Derived.Deep.DeepCutAuto
namespace Go.Proofs.YtnkhghjcfhpeiaaGreatDoor
open Go.RowKit

theorem jidx {l : Bs} {a : UInt8} {i : Nat} (h : l[i]? = some a) (W : World) : (Instr.index 9 (.string (tb l)) (.int .i64 (i : Int))).run Tryz.prog W = .ok (.int .u8 (a.toNat : Int)) W := by
  obtain ⟨hi, h2⟩ := List.getElem?_eq_some_iff.1 h
  have h3 : (i : Int) < ((tb l).size : Int) := by rw [tb_size]; omega
  have h4 : (0 : Int) ≤ (i : Int) := by omega
  have h5 : i < (tb l).size := by rw [tb_size]; exact hi
  have h6 : (tb l)[i]'h5 = a := h2
  rw [run_index_string W 9 (tb l) .i64 _ Tryz.underlying9, dif_pos ⟨h4, h3⟩]
  simp only [Int.toNat_natCast, h6]
/-- a number is handed back, and nothing else is turned -/
def NumEnds0 (n : Int) (w : World) (e : Ending) (w' : World) : Prop := e = .returned (.int .i64 n) ∧ w' = w
theorem dig_at {s : Bs} {j : Nat} {c : UInt8} (h : s[j]? = some c) : digL (s.drop j) = if digB c = true then digL (s.drop (j + 1)) + 1 else 0 := by
  obtain ⟨h1, h2⟩ := List.getElem?_eq_some_iff.1 h
  rw [List.drop_eq_getElem_cons h1, h2, digL]
set_option maxRecDepth 100000 in
set_option maxHeartbeats 2000000 in
theorem rdigits_any (s : Bs) (hs : s.length ≤ 1000000) (w : World) : Calls Tryz.prog 74 #[.string (tb s)] w (NumEnds0 (digL s : Int) w) := by
  have zs : (tb s).size = s.length := tb_size s
  obtain ⟨Q, hQ⟩ : ∃ Q, digL s = Q := ⟨_, rfl⟩
  rw [hQ]
  replace hQ := Lib.hid hQ
  go_enter Tryz.func74, Tryz.ntmps74
  go_wp2_with fail
  go_loopw [3] (fun i wr => ∃ j : Nat, j ≤ s.length ∧ i = .int .i64 (j : Int) ∧ Hid (Q = j + digL (s.drop j)) ∧ wr = w) (fun i _ => s.length - (intOf i).toNat)
  case atStart => exact ⟨0, Nat.zero_le _, rfl, Lib.hid (by rw [← hQ.out, List.drop_zero]; omega), rfl⟩
  case round =>
    obtain ⟨j, hj, rfl, HQ, rfl⟩ := hrel
    by_cases hlt : j < s.length
    case pos =>
      have hji : (j : Int) < (s.length : Int) := by omega
      have hg : s[j]? = some s[j] := List.getElem?_eq_getElem hlt
      have hix := fun W => jidx hg W
      have HD := Lib.hid (dig_at hg)
      have hdb : digB s[j] = (decide (48 ≤ (s[j].toNat : Int)) && decide ((s[j].toNat : Int) ≤ 57)) := by
        unfold digB
        rw [Bool.eq_iff_iff]
        simp only [Bool.and_eq_true, decide_eq_true_eq]
        omega
      rw [hdb] at HD
      clear hdb hg
      generalize (s[j].toNat : Int) = z at *
      by_cases h1 : 48 ≤ z
      case neg =>
        have hq : Q = j := by rw [HQ.out, HD.out, decide_eq_false h1]; rfl
        subst hq
        go_wp2
        go_ret
        exact ⟨rfl, rfl⟩
      case pos =>
        by_cases h2 : z ≤ 57
        case neg =>
          have hq : Q = j := by rw [HQ.out, HD.out, decide_eq_false h2, Bool.and_false]; rfl
          subst hq
          go_wp2
          go_ret
          exact ⟨rfl, rfl⟩
        case pos =>
          have HQ1 : Hid (Q = j + 1 + digL (s.drop (j + 1))) := Lib.hid (by rw [HQ.out, HD.out, decide_eq_true h1, decide_eq_true h2, Bool.and_true, if_pos rfl]; omega)
          go_wp2
          go_roundw
          case rel => exact ⟨j + 1, by omega, by go_num, HQ1, trivial⟩
          case measure => simp [intOf]; omega
    case neg =>
      have hji : ¬ (j : Int) < (s.length : Int) := by omega
      have hq : Q = j := by rw [HQ.out, List.drop_of_length_le (by omega)]; rfl
      subst hq
      go_wp2
      go_ret
      exact ⟨rfl, rfl⟩
theorem two_or (z a b : Int) : decide (z = a ∨ z = b) = (z == a || z == b) := by
  rw [Bool.eq_iff_iff]
  simp
theorem sgn_at (s : Bs) : (sgnL s = 1 ∧ s[0]? = some 45) ∨ (sgnL s = 0 ∧ (s = [] ∨ ∃ c, s[0]? = some c ∧ ¬ (c.toNat : Int) = 45)) := by
  cases s with
  | nil => exact .inr ⟨rfl, .inl rfl⟩
  | cons c t =>
    by_cases h : c = 45
    · subst h; exact .inl ⟨rfl, rfl⟩
    · exact .inr ⟨by rw [sgnL, if_neg h], .inr ⟨c, rfl, fun e => h (UInt8.toNat_inj.1 (by rw [show (45 : UInt8).toNat = 45 from rfl]; omega))⟩⟩
theorem int_dig (l : Bs) : (digL l = 0 → intL l = 0) ∧ (digL l ≠ 0 → ∃ c t, l = c :: t ∧ intL l = if (c.toNat : Int) = 48 then 1 else digL l) := by
  cases l with
  | nil => exact ⟨fun _ => rfl, fun h => absurd rfl h⟩
  | cons c t =>
    have hc : c = 48 ↔ (c.toNat : Int) = 48 := ⟨fun h => by rw [h]; rfl, fun h => UInt8.toNat_inj.1 (by rw [show (48 : UInt8).toNat = 48 from rfl]; omega)⟩
    refine ⟨fun h => ?_, fun h => ⟨c, t, rfl, ?_⟩⟩
    · rw [intL]
      split
      · rename_i h48
        subst h48
        rw [digL, if_pos (by decide)] at h
        omega
      · exact h
    · rw [intL]
      by_cases h48 : c = 48
      · rw [if_pos h48, if_pos (hc.1 h48)]
      · rw [if_neg h48, if_neg (fun e => h48 (hc.2 e))]
theorem at_drop {s : Bs} {p : Nat} {c : UInt8} (h : s[p]? = some c) : s.drop p = c :: s.drop (p + 1) := by
  obtain ⟨h1, h2⟩ := List.getElem?_eq_some_iff.1 h
  rw [List.drop_eq_getElem_cons h1, h2]
theorem byte_is {c : UInt8} {n : Nat} (hn : n < 256) : c = UInt8.ofNat n ↔ (c.toNat : Int) = n := by
  constructor
  · intro h; rw [h, nat8 hn]
  · intro h; exact UInt8.toNat_inj.1 (by rw [nat8 hn]; omega)
theorem frac_at (s : Bs) (p : Nat) : (s[p]? = some 46 → fracL (s.drop p) = if digL (s.drop (p + 1)) = 0 then none else some (1 + digL (s.drop (p + 1)))) ∧ (s[p]? ≠ some 46 → fracL (s.drop p) = some 0) := by
  constructor
  · intro h
    rw [at_drop h, fracL, if_pos rfl]
  · intro h
    cases hp : s[p]? with
    | none => rw [List.drop_of_length_le (List.getElem?_eq_none_iff.1 hp)]; rfl
    | some c =>
      rw [hp] at h
      rw [at_drop hp, fracL, if_neg (fun e => h (by rw [e]))]
theorem sg2_at (s : Bs) (p : Nat) : sg2L (s.drop p) = if s[p]? = some 43 ∨ s[p]? = some 45 then 1 else 0 := by
  cases hp : s[p]? with
  | none => rw [List.drop_of_length_le (List.getElem?_eq_none_iff.1 hp)]; rfl
  | some c => rw [at_drop hp, sg2L]; simp
theorem exp_at (s : Bs) (p : Nat) : ((s[p]? = some 101 ∨ s[p]? = some 69) → expL (s.drop p) = if digL (s.drop (p + 1 + sg2L (s.drop (p + 1)))) = 0 then none else some (1 + sg2L (s.drop (p + 1)) + digL (s.drop (p + 1 + sg2L (s.drop (p + 1)))))) ∧ (¬ (s[p]? = some 101 ∨ s[p]? = some 69) → expL (s.drop p) = some 0) := by
  constructor
  · intro h
    obtain ⟨c, hc, hc2⟩ : ∃ c, s[p]? = some c ∧ (c = 101 ∨ c = 69) := by
      rcases h with h | h
      · exact ⟨_, h, .inl rfl⟩
      · exact ⟨_, h, .inr rfl⟩
    rw [at_drop hc, expL, if_pos hc2, List.drop_drop]
  · intro h
    cases hp : s[p]? with
    | none => rw [List.drop_of_length_le (List.getElem?_eq_none_iff.1 hp)]; rfl
    | some c =>
      rw [hp] at h
      rw [at_drop hp, expL, if_neg (fun e => h (by rcases e with rfl | rfl <;> simp))]
set_option maxRecDepth 100000 in
set_option maxHeartbeats 4000000 in
theorem rnumber_any (s : Bs) (hs : s.length ≤ 1000000) (w : World) : Calls Tryz.prog 50 #[.string (tb s)] w (NumEnds0 (numberL s : Int) w) := by
  have zs : (tb s).size = s.length := tb_size s
  obtain ⟨Q, hQ⟩ : ∃ Q, numberL s = Q := ⟨_, rfl⟩
  rw [hQ]
  replace hQ := Lib.hid hQ
  obtain ⟨i, hi⟩ : ∃ i, sgnL s = i := ⟨_, rfl⟩
  have hi1 : i ≤ 1 := by rw [← hi]; exact sgn_le s
  have his : i ≤ s.length := by
    rw [← hi]
    cases s with
    | nil => exact Nat.le_refl _
    | cons c t => have := sgn_le (c :: t); simp only [List.length_cons]; omega
  have hsg := sgn_at s
  rw [hi] at hsg
  go_enter Tryz.func50, Tryz.ntmps50
  go_upto_region 2 with fail
  go_cut [17] (fun v W => v = .bool (decide (i = 1)) ∧ w = W)
  case first =>
    rcases hsg with ⟨rfl, h0⟩ | ⟨rfl, rfl | ⟨c, h0, hc⟩⟩
    · have hix : ∀ W, (Instr.index 9 (.string (tb s)) (.int .i64 0)).run Tryz.prog W = _ := fun W => jidx h0 W
      have hl : (0 : Int) < (s.length : Int) := by have := (List.getElem?_eq_some_iff.1 h0).1; omega
      go_wp2
      go_meet
      exact ⟨rfl, rfl⟩
    · go_wp2
      go_meet
      exact ⟨rfl, rfl⟩
    · have hix : ∀ W, (Instr.index 9 (.string (tb s)) (.int .i64 0)).run Tryz.prog W = _ := fun W => jidx h0 W
      have hl : (0 : Int) < (s.length : Int) := by have := (List.getElem?_eq_some_iff.1 h0).1; omega
      generalize (c.toNat : Int) = z at *
      go_wp2
      go_meet
      exact ⟨by rw [beq_eq_false_iff_ne.2 hc]; rfl, rfl⟩
  case rest =>
    obtain ⟨rfl, rfl⟩ := hcut
    go_upto_if 17 with fail
    go_cut [3] (fun v W => v = .int .i64 (i : Int) ∧ w = W)
    case first =>
      have hi2 : i = 0 ∨ i = 1 := by omega
      rcases hi2 with rfl | rfl
      · go_wp2
        go_meet
        exact ⟨rfl, rfl⟩
      · go_wp2
        go_meet
        exact ⟨rfl, rfl⟩
    case rest =>
      obtain ⟨rfl, rfl⟩ := hcut
      have hD := Lib.hid (rdigits_any (s.drop i) (by rw [List.length_drop]; omega) w)
      have hx : (tb s).extract i s.length = tb (s.drop i) := by rw [tb_ext, List.take_length]
      have his2 : (i : Int) ≤ (s.length : Int) := by omega
      obtain ⟨n0, hn0⟩ : ∃ n0, digL (s.drop i) = n0 := ⟨_, rfl⟩
      have hID := int_dig (s.drop i)
      have hn0s := dig_le (s.drop i)
      rw [List.length_drop] at hn0s
      rw [hn0] at hD hID hn0s
      have HQ0 : Hid (Q = if intL (s.drop i) = 0 then 0 else match fracL (s.drop (i + intL (s.drop i))) with | none => 0 | some a => match expL (s.drop (i + intL (s.drop i) + a)) with | none => 0 | some b => i + intL (s.drop i) + a + b) := Lib.hid (by rw [← hQ.out, numberL, hi]; rfl)
      go_wp2_with fail
      refine hD.out.mono ?_
      rintro E w1 ⟨rfl, hw⟩
      cases hw
      by_cases hz0 : n0 = 0
      case pos =>
        have hq : Q = 0 := by rw [HQ0.out, hID.1 hz0, if_pos rfl]
        subst hq
        subst hz0
        clear hID hn0 hD hx
        go_wp2
        go_ret
        exact ⟨rfl, rfl⟩
      case neg =>
        obtain ⟨c, t, hct, hin⟩ := hID.2 hz0
        have hci : s[i]? = some c := by
          have h := List.getElem?_drop (xs := s) (i := i) (j := 0)
          rw [hct] at h
          exact h.symm
        have hix := fun W => jidx hci W
        have hil : (i : Int) < (s.length : Int) := by have := (List.getElem?_eq_some_iff.1 hci).1; omega
        obtain ⟨n, hn⟩ : ∃ n, intL (s.drop i) = n := ⟨_, rfl⟩
        rw [hn] at hin HQ0
        generalize (c.toNat : Int) = z at *
        have hnz : n ≠ 0 ∧ n ≤ n0 := by
          rw [hin]
          split <;> omega
        have hn0i : ¬ (n0 : Int) = 0 := by omega
        replace hin := Lib.hid hin
        rw [if_neg hnz.1] at HQ0
        clear hct hID hD hx hn0 hci
        go_upto_if 29 with fail
        go_cut [4] (fun v W => v = .int .i64 (n : Int) ∧ w = W)
        case first =>
          by_cases h48 : z = 48
          · have hn1 : n = 1 := by rw [hin.out, if_pos h48]
            subst hn1
            subst h48
            go_wp2
            go_meet
            exact ⟨rfl, rfl⟩
          · have hn1 : n = n0 := by rw [hin.out, if_neg h48]
            subst hn1
            go_wp2
            go_meet
            exact ⟨rfl, rfl⟩
        case rest =>
          obtain ⟨rfl, rfl⟩ := hcut
          obtain ⟨p, hp⟩ : ∃ p, i + n = p := ⟨_, rfl⟩
          have hpw : IntKind.i64.wrap ((i : Int) + (n : Int)) = (p : Int) := by rw [IntWalk.i64_in _ (by omega)]; omega
          have hps : p ≤ s.length := by omega
          rw [hp] at HQ0
          clear hix hil hin hp hnz hz0
          go_upto_region 10 with fail
          go_cut [42] (fun v W => v = .bool (decide (s[p]? = some 46)) ∧ w = W)
          case first =>
            cases hsp : s[p]? with
            | none =>
              have hge := List.getElem?_eq_none_iff.1 hsp
              have hl : ¬ (p : Int) < (s.length : Int) := by omega
              have hd : Hid (decide (s[p]? = some (46 : UInt8)) = false) := Lib.hid (by rw [hsp]; rfl)
              go_wp2
              go_meet
              exact ⟨by rw [hd.out], rfl⟩
            | some d =>
              have hl : (p : Int) < (s.length : Int) := by have := (List.getElem?_eq_some_iff.1 hsp).1; omega
              have hix := fun W => jidx hsp W
              have hd : Hid (decide (s[p]? = some (46 : UInt8)) = ((d.toNat : Int) == 46)) := Lib.hid (by
                rw [hsp, Bool.eq_iff_iff]
                simp only [decide_eq_true_eq, beq_iff_eq, Option.some.injEq]
                exact byte_is (n := 46) (by omega))
              generalize (d.toNat : Int) = z2 at *
              go_wp2
              go_meet
              exact ⟨by rw [hd.out], rfl⟩
          case rest =>
            obtain ⟨rfl, rfl⟩ := hcut
            have HF := Lib.hid (frac_at s p)
            go_upto_if 42 with fail
            go_cut [3] (fun v W => ∃ a : Nat, fracL (s.drop p) = some a ∧ v = .int .i64 ((p + a : Nat) : Int) ∧ w = W)
            case first =>
              by_cases h46 : s[p]? = some 46
              case neg =>
                rw [decide_eq_false h46]
                go_wp2
                go_meet
                exact ⟨0, HF.out.2 h46, rfl, rfl⟩
              case pos =>
                have hpl := (List.getElem?_eq_some_iff.1 h46).1
                have HFr := Lib.hid (HF.out.1 h46)
                rw [decide_eq_true h46]
                have hD := Lib.hid (rdigits_any (s.drop (p + 1)) (by rw [List.length_drop]; omega) w)
                have hx : (tb s).extract (p + 1) s.length = tb (s.drop (p + 1)) := by rw [tb_ext, List.take_length]
                have h1 : (p : Int) + 1 ≤ (s.length : Int) := by omega
                have h2 : IntKind.i64.wrap ((p : Int) + 1) = (p : Int) + 1 := IntWalk.i64_in _ (by omega)
                have h3 : ((p : Int) + 1).toNat = p + 1 := by omega
                have h4 : (0 : Int) ≤ (p : Int) + 1 := by omega
                have hkl := dig_le (s.drop (p + 1))
                rw [List.length_drop] at hkl
                obtain ⟨k, hk⟩ : ∃ k, digL (s.drop (p + 1)) = k := ⟨_, rfl⟩
                rw [hk] at hD HFr hkl
                clear h46 hk
                go_wp2_with fail
                refine hD.out.mono ?_
                rintro E w1 ⟨rfl, hw⟩
                cases hw
                by_cases hk0 : k = 0
                case pos =>
                  have hq : Q = 0 := by rw [HQ0.out, HFr.out, if_pos hk0]
                  subst hq
                  subst hk0
                  go_wp2
                  go_ret
                  exact ⟨rfl, rfl⟩
                case neg =>
                  have hki : ¬ (k : Int) = 0 := by omega
                  have h5 : IntKind.i64.wrap ((p : Int) + 1 + (k : Int)) = ((p + (1 + k) : Nat) : Int) := by rw [IntWalk.i64_in _ (by omega)]; omega
                  go_wp2
                  go_meet
                  exact ⟨1 + k, by rw [HFr.out, if_neg hk0], rfl, rfl⟩
            case rest =>
              obtain ⟨a, hfa, rfl, rfl⟩ := hcut
              have hal := frac_le hfa
              rw [List.length_drop] at hal
              rw [hfa] at HQ0
              simp only at HQ0
              obtain ⟨q, hq⟩ : ∃ q, p + a = q := ⟨_, rfl⟩
              have hqs : q ≤ s.length := by omega
              rw [hq] at HQ0 ⊢
              clear hq hfa hal HF
              go_upto_region 15 with fail
              go_cut [69] (fun v W => v = .bool (decide (s[q]? = some 101 ∨ s[q]? = some 69)) ∧ w = W)
              case first =>
                cases hsp : s[q]? with
                | none =>
                  have hge := List.getElem?_eq_none_iff.1 hsp
                  have hl : ¬ (q : Int) < (s.length : Int) := by omega
                  have hd : Hid (decide (s[q]? = some (101 : UInt8) ∨ s[q]? = some 69) = false) := Lib.hid (by rw [hsp]; simp)
                  go_wp2
                  go_meet
                  exact ⟨by rw [hd.out], rfl⟩
                | some d =>
                  have hl : (q : Int) < (s.length : Int) := by have := (List.getElem?_eq_some_iff.1 hsp).1; omega
                  have hix := fun W => jidx hsp W
                  have hd : Hid (decide (s[q]? = some (101 : UInt8) ∨ s[q]? = some 69) = decide ((d.toNat : Int) = 101 ∨ (d.toNat : Int) = 69)) := Lib.hid (by
                    rw [hsp, decide_eq_decide, Option.some.injEq, Option.some.injEq]
                    exact or_congr (byte_is (n := 101) (by omega)) (byte_is (n := 69) (by omega)))
                  generalize (d.toNat : Int) = z2 at *
                  by_cases e1 : z2 = 101
                  · subst e1
                    go_wp2
                    go_meet
                    exact ⟨by rw [hd.out]; rfl, rfl⟩
                  · by_cases e2 : z2 = 69
                    · subst e2
                      go_wp2
                      go_meet
                      exact ⟨by rw [hd.out]; rfl, rfl⟩
                    · go_wp2
                      go_meet
                      exact ⟨by rw [hd.out, two_or], rfl⟩
              case rest =>
                obtain ⟨rfl, rfl⟩ := hcut
                have HE := Lib.hid (exp_at s q)
                go_upto_if 69 with fail
                go_cut [3] (fun v W => ∃ b : Nat, expL (s.drop q) = some b ∧ v = .int .i64 ((q + b : Nat) : Int) ∧ w = W)
                case rest =>
                  obtain ⟨b, hb, rfl, rfl⟩ := hcut
                  rw [hb] at HQ0
                  simp only at HQ0
                  rw [← HQ0.out]
                  go_wp2
                  go_ret
                  exact ⟨rfl, rfl⟩
                case first =>
                  by_cases he : s[q]? = some 101 ∨ s[q]? = some 69
                  case neg =>
                    rw [decide_eq_false he]
                    go_wp2
                    go_meet
                    exact ⟨0, HE.out.2 he, rfl, rfl⟩
                  case pos =>
                    have hql : q < s.length := by
                      rcases he with he | he
                      · exact (List.getElem?_eq_some_iff.1 he).1
                      · exact (List.getElem?_eq_some_iff.1 he).1
                    have HEr := Lib.hid (HE.out.1 he)
                    have HG := Lib.hid (sg2_at s (q + 1))
                    rw [decide_eq_true he]
                    have h2 : IntKind.i64.wrap ((q : Int) + 1) = ((q + 1 : Nat) : Int) := by rw [IntWalk.i64_in _ (by omega)]; omega
                    clear he
                    obtain ⟨j, hj⟩ : ∃ j, q + 1 = j := ⟨_, rfl⟩
                    rw [hj] at h2 HG HEr
                    have hjs : j ≤ s.length := by omega
                    go_upto_region 17 with fail
                    go_cut [87] (fun v W => v = .bool (decide (s[j]? = some 43 ∨ s[j]? = some 45)) ∧ w = W)
                    case first =>
                      cases hsp : s[j]? with
                      | none =>
                        have hge := List.getElem?_eq_none_iff.1 hsp
                        have hl : ¬ (j : Int) < (s.length : Int) := by omega
                        have hd : Hid (decide (s[j]? = some (43 : UInt8) ∨ s[j]? = some 45) = false) := Lib.hid (by rw [hsp]; simp)
                        go_wp2
                        go_meet
                        exact ⟨by rw [hd.out], rfl⟩
                      | some d =>
                        have hl : (j : Int) < (s.length : Int) := by have := (List.getElem?_eq_some_iff.1 hsp).1; omega
                        have hix := fun W => jidx hsp W
                        have hd : Hid (decide (s[j]? = some (43 : UInt8) ∨ s[j]? = some 45) = decide ((d.toNat : Int) = 43 ∨ (d.toNat : Int) = 45)) := Lib.hid (by
                          rw [hsp, decide_eq_decide, Option.some.injEq, Option.some.injEq]
                          exact or_congr (byte_is (n := 43) (by omega)) (byte_is (n := 45) (by omega)))
                        generalize (d.toNat : Int) = z2 at *
                        by_cases e1 : z2 = 43
                        · subst e1
                          go_wp2
                          go_meet
                          exact ⟨by rw [hd.out]; rfl, rfl⟩
                        · by_cases e2 : z2 = 45
                          · subst e2
                            go_wp2
                            go_meet
                            exact ⟨by rw [hd.out]; rfl, rfl⟩
                          · go_wp2
                            go_meet
                            exact ⟨by rw [hd.out, two_or], rfl⟩
                    case rest =>
                      obtain ⟨rfl, rfl⟩ := hcut
                      obtain ⟨g, hg⟩ : ∃ g, sg2L (s.drop j) = g := ⟨_, rfl⟩
                      rw [hg] at HG HEr
                      have hg1 : g ≤ 1 := by rw [← hg]; exact sg2_le _
                      have hgl : j + g ≤ s.length := by
                        rw [HG.out]
                        split
                        · rename_i hh
                          have : j < s.length := by
                            rcases hh with hh | hh
                            · exact (List.getElem?_eq_some_iff.1 hh).1
                            · exact (List.getElem?_eq_some_iff.1 hh).1
                          omega
                        · omega
                      obtain ⟨r, hr⟩ : ∃ r, j + g = r := ⟨_, rfl⟩
                      have h6 : IntKind.i64.wrap ((j : Int) + 1) = (j : Int) + 1 := IntWalk.i64_in _ (by omega)
                      go_upto_if 87 with fail
                      go_cut [6] (fun v W => v = .int .i64 (r : Int) ∧ w = W)
                      case first =>
                        by_cases hh : s[j]? = some 43 ∨ s[j]? = some 45
                        · rw [decide_eq_true hh]
                          have hg2 : g = 1 := by rw [HG.out, if_pos hh]
                          have hrj : (r : Int) = (j : Int) + 1 := by omega
                          clear hh
                          replace hrj := Lib.hid hrj
                          go_wp2
                          go_meet
                          exact ⟨by rw [hrj.out], rfl⟩
                        · rw [decide_eq_false hh]
                          have hg2 : g = 0 := by rw [HG.out, if_neg hh]
                          have hrj : r = j := by omega
                          clear hh
                          replace hrj := Lib.hid hrj
                          go_wp2
                          go_meet
                          exact ⟨by rw [hrj.out], rfl⟩
                      case rest =>
                        obtain ⟨rfl, rfl⟩ := hcut
                        rw [hr] at HEr hgl
                        have hD := Lib.hid (rdigits_any (s.drop r) (by rw [List.length_drop]; omega) w)
                        have hx : (tb s).extract r s.length = tb (s.drop r) := by rw [tb_ext, List.take_length]
                        have h1 : (r : Int) ≤ (s.length : Int) := by omega
                        have hkl := dig_le (s.drop r)
                        rw [List.length_drop] at hkl
                        obtain ⟨k, hk⟩ : ∃ k, digL (s.drop r) = k := ⟨_, rfl⟩
                        rw [hk] at hD HEr hkl
                        clear hk h6 h2 HG
                        go_wp2_with fail
                        refine hD.out.mono ?_
                        rintro E w1 ⟨rfl, hw⟩
                        cases hw
                        by_cases hk0 : k = 0
                        case pos =>
                          have hq : Q = 0 := by rw [HQ0.out, HEr.out, if_pos hk0]
                          subst hq
                          subst hk0
                          go_wp2
                          go_ret
                          exact ⟨rfl, rfl⟩
                        case neg =>
                          have hki : ¬ (k : Int) = 0 := by omega
                          have h5 : IntKind.i64.wrap ((r : Int) + (k : Int)) = ((q + (1 + g + k) : Nat) : Int) := by rw [IntWalk.i64_in _ (by omega)]; omega
                          go_wp2
                          go_meet
                          exact ⟨1 + g + k, by rw [HEr.out, if_neg hk0], rfl, rfl⟩
end Go.Proofs.YtnkhghjcfhpeiaaGreatDoor
