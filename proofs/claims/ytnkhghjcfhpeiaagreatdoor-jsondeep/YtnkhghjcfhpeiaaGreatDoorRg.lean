/-
  The document's Quote, walked.
-/
import Derived.Test.YtnkhghjcfhpeiaaGreatDoorJRc
import Derived.Test.YtnkhghjcfhpeiaaGreatDoorJNBits
import Derived.Test.YtnkhghjcfhpeiaaGreatDoorNRef3
namespace Go.Proofs.YtnkhghjcfhpeiaaGreatDoor
open Go.RowKit
theorem qb_low : ∀ a : Fin 16, a.1 ≠ 9 → a.1 ≠ 10 → a.1 ≠ 13 → qb (UInt8.ofNat a.1) = [92, 117, 48, 48, 48] ++ dgs 16 a.1 ∧ (dgs 16 a.1).length ≤ 2 := by decide +kernel
theorem qb_mid : ∀ a : Fin 32, 16 ≤ a.1 → qb (UInt8.ofNat a.1) = [92, 117, 48, 48] ++ dgs 16 a.1 ∧ (dgs 16 a.1).length ≤ 2 := by decide +kernel
theorem qb_len : ∀ a : UInt8, (qb a).length ≤ 6 := by
  intro a
  unfold qb
  repeat' split
  all_goals simp
/-- what is written of the first bytes -/
def qo (s : Bs) (j : Nat) : Bs := 34 :: (s.take j).flatMap qb
theorem qo_step {s : Bs} {j : Nat} {a : UInt8} (h : s[j]? = some a) : qo s (j + 1) = qo s j ++ qb a := by
  unfold qo
  rw [List.take_add_one, h]
  simp
theorem qo_len (s : Bs) : ∀ j, j ≤ s.length → (qo s j).length ≤ 6 * j + 1 := by
  intro j
  induction j with
  | zero => intro _; simp [qo]
  | succ j ih =>
    intro hj
    have h : s[j]? = some s[j] := List.getElem?_eq_getElem (by omega)
    rw [qo_step h, List.length_append]
    have := ih (by omega)
    have := qb_len s[j]
    omega
theorem qo_end (s : Bs) : qo s s.length ++ [34] = quoteL s := by
  unfold qo quoteL
  rw [List.take_length]
  rfl
theorem rtext16 (c : Nat) (hc : c < 256) (w : World) : Calls Tryz.prog 73 #[.int .i64 (c : Int), .int .i64 16] w (TxtEnds (dgs 16 c) w) := by
  refine (Nm.rtext_any (c : Int) 16 w).mono ?_
  rintro E w' ⟨x, rfl, hx, hb⟩
  have ht : textN (c : Int) 16 = dgs 16 c := by
    unfold textN
    rw [if_pos ⟨by unfold fitN; simp; omega, .inr rfl⟩]
    rfl
  rw [ht] at hx
  exact ⟨by rw [tb_of hx], hb⟩
set_option maxRecDepth 100000 in
set_option maxHeartbeats 4000000 in
theorem rquote_any (s : Bs) (hs : s.length ≤ 1000000) (w : World) : Calls Tryz.prog 49 #[.string (tb s)] w (QuoEnds (quoteQ s) w) := by
  have zs : (tb s).size = s.length := tb_size s
  have HV := Lib.hid (rvalid_any s w)
  unfold quoteQ
  cases hv : validL s with
  | false =>
    rw [hv] at HV
    go_enter Tryz.func49, Tryz.ntmps49
    go_wp2_with fail
    refine HV.out.mono ?_
    rintro E w1 ⟨rfl, hb⟩
    go_wp2
    go_ret2
    exact ⟨rfl, hb⟩
  | true =>
    rw [hv] at HV
    rw [if_pos rfl]
    clear hv
    obtain ⟨Q, hQ⟩ : ∃ Q, quoteL s = Q := ⟨_, rfl⟩
    rw [hQ]
    have HQ := Lib.hid hQ
    clear hQ
    go_enter Tryz.func49, Tryz.ntmps49
    go_wp2_with fail
    refine HV.out.mono ?_
    rintro E w1 ⟨rfl, hb⟩
    have HB0 := Lib.hid hb
    clear hb HV
    go_wp2_with fail
    go_loopw [4, 5, 6] (fun o i _ wr => ∃ (j : Nat), j ≤ s.length ∧ o = .string (tb (qo s j)) ∧ i = .int .i64 (j : Int) ∧ Hid (Below w.heap.size w wr)) (fun _ i _ _ => s.length - (intOf i).toNat)
    case atStart => exact ⟨0, Nat.zero_le _, rfl, rfl, HB0⟩
    case round =>
      obtain ⟨j, hj, rfl, rfl, HB⟩ := hrel
      have hol := qo_len s j hj
      by_cases hlt : j < s.length
      case neg =>
        obtain rfl : j = s.length := by omega
        have hji : ¬ (s.length : Int) < (s.length : Int) := by omega
        have hadd := fun W => run_string_add_sum (P := Tryz.prog) W (tb (qo s s.length)) (tb [34]) (by rw [tb_size, tb_size, List.length_singleton]; omega)
        have hta : tb (qo s s.length) ++ tb [34] = tb Q := by rw [tb_app, qo_end, HQ.out]
        rw [show tb [34] = ⟨#[34]⟩ from rfl] at hadd hta
        clear hlt HQ
        generalize qo s s.length = X at *
        go_wp2
        go_ret2
        exact ⟨by first | rfl | simp only [hta], HB.out⟩
      case pos =>
        have hji : (j : Int) < (s.length : Int) := by omega
        obtain ⟨a, hga⟩ : ∃ a, s[j]? = some a := ⟨_, List.getElem?_eq_getElem hlt⟩
        have hix := fun W => bidx hga W
        have hst := qo_step hga
        have hql := qb_len a
        have hxt : (tb s).extract j (j + 1) = tb [a] := by
          rw [tb_ext, List.take_add_one, hga, List.drop_append_of_le_length (by rw [List.length_take]; omega), List.drop_of_length_le (by rw [List.length_take]; omega)]
          rfl
        have hw1 : IntKind.i64.wrap ((j : Int) + 1) = ((j + 1 : Nat) : Int) := by rw [wrp _ (by omega) (by omega)]; omega
        have hb1 : ((j + 1 : Nat) : Int) ≤ (s.length : Int) := by omega
        have hb2 : (j : Int) ≤ ((j + 1 : Nat) : Int) := by omega
        have hap : ∀ (X Y : Bs), X.length ≤ 6 * j + 10 → Y.length ≤ 10 → ∀ W, _ := fun X Y h1 h2 W => run_string_add_sum (P := Tryz.prog) W (tb X) (tb Y) (by rw [tb_size, tb_size]; omega)
        clear hga
        by_cases c1 : a = 34 ∨ a = 92
        · have hqb : qb a = [92] ++ [a] := by rcases c1 with rfl | rfl <;> rfl
          rw [hqb, ← List.append_assoc] at hst
          have hta1 := tb_app (qo s j) [92]
          have hta2 := tb_app (qo s j ++ [92]) [a]
          have k1 := fun W => hap (qo s j) [92] (by omega) (by simp) W
          have k2 := fun W => hap (qo s j ++ [92]) [a] (by rw [List.length_append, List.length_singleton]; omega) (by simp) W
          rw [← hst] at hta2
          rw [hta2] at k2
          rw [hta1] at k1
          rw [show tb [92] = ⟨#[92]⟩ from rfl] at k1
          clear hap hqb hta1 hta2 hst
          have hz : (a.toNat : Int) = 34 ∨ ((a.toNat : Int) = 92 ∧ ¬ (a.toNat : Int) = 34) := by rcases c1 with rfl | rfl; exact .inl rfl; exact .inr ⟨rfl, by decide⟩
          rcases hz with hz | ⟨hz, hz2⟩
          · rw [hz] at hix
            clear c1
            go_wp2
            go_roundw
            case rel => exact ⟨j + 1, by omega, rfl, by go_num, HB⟩
            case measure => simp [intOf]; omega
          · rw [hz] at hix
            clear c1
            go_wp2
            go_roundw
            case rel => exact ⟨j + 1, by omega, rfl, by go_num, HB⟩
            case measure => simp [intOf]; omega
        · have n1 := nat_ne (a := a) (b := 34) (fun e => c1 (.inl e))
          have n2 := nat_ne (a := a) (b := 92) (fun e => c1 (.inr e))
          rw [show ((34 : UInt8).toNat : Int) = 34 from rfl] at n1
          rw [show ((92 : UInt8).toNat : Int) = 92 from rfl] at n2
          by_cases c2 : a = 10 ∨ a = 13 ∨ a = 9
          · rcases c2 with rfl | rfl | rfl
            · rw [show qb 10 = [92, 110] from rfl] at hst
              have k1 := fun W => hap (qo s j) [92, 110] (by omega) (by simp) W
              rw [tb_app, ← hst, show tb [92, 110] = ⟨#[92, 110]⟩ from rfl] at k1
              rw [show ((10 : UInt8).toNat : Int) = 10 from rfl] at hix
              clear hap hst c1
              go_wp2
              go_roundw
              case rel => exact ⟨j + 1, by omega, rfl, by go_num, HB⟩
              case measure => simp [intOf]; omega
            · rw [show qb 13 = [92, 114] from rfl] at hst
              have k1 := fun W => hap (qo s j) [92, 114] (by omega) (by simp) W
              rw [tb_app, ← hst, show tb [92, 114] = ⟨#[92, 114]⟩ from rfl] at k1
              rw [show ((13 : UInt8).toNat : Int) = 13 from rfl] at hix
              clear hap hst c1
              go_wp2
              go_roundw
              case rel => exact ⟨j + 1, by omega, rfl, by go_num, HB⟩
              case measure => simp [intOf]; omega
            · rw [show qb 9 = [92, 116] from rfl] at hst
              have k1 := fun W => hap (qo s j) [92, 116] (by omega) (by simp) W
              rw [tb_app, ← hst, show tb [92, 116] = ⟨#[92, 116]⟩ from rfl] at k1
              rw [show ((9 : UInt8).toNat : Int) = 9 from rfl] at hix
              clear hap hst c1
              go_wp2
              go_roundw
              case rel => exact ⟨j + 1, by omega, rfl, by go_num, HB⟩
              case measure => simp [intOf]; omega
          · have n3 := nat_ne (a := a) (b := 10) (fun e => c2 (.inl e))
            have n4 := nat_ne (a := a) (b := 13) (fun e => c2 (.inr (.inl e)))
            have n5 := nat_ne (a := a) (b := 9) (fun e => c2 (.inr (.inr e)))
            rw [show ((10 : UInt8).toNat : Int) = 10 from rfl] at n3
            rw [show ((13 : UInt8).toNat : Int) = 13 from rfl] at n4
            rw [show ((9 : UInt8).toNat : Int) = 9 from rfl] at n5
            have ha8 := a.toNat_lt
            by_cases c3 : a.toNat < 16
            · obtain ⟨q1, q2⟩ := qb_low ⟨a.toNat, c3⟩ (by simp only; omega) (by simp only; omega) (by simp only; omega)
              simp only [UInt8.ofNat_toNat] at q1 q2
              rw [q1, ← List.append_assoc] at hst
              have k1 := fun W => hap (qo s j) [92, 117, 48, 48, 48] (by omega) (by simp) W
              have k2 := fun W => hap (qo s j ++ [92, 117, 48, 48, 48]) (dgs 16 a.toNat) (by rw [List.length_append]; simp only [List.length_cons, List.length_nil]; omega) (by omega) W
              rw [tb_app, show tb [92, 117, 48, 48, 48] = ⟨#[92, 117, 48, 48, 48]⟩ from rfl] at k1
              rw [tb_app, ← hst] at k2
              have hT := Lib.hid (rtext16 a.toNat (by omega) wr)
              have hw2 : IntKind.i64.wrap (a.toNat : Int) = (a.toNat : Int) := wrp _ (by omega) (by omega)
              have l1 : (a.toNat : Int) < 16 := by omega
              clear hap hst c1 c2 c3 q1 q2 hxt ha8
              generalize dgs 16 a.toNat = D at *
              generalize (a.toNat : Int) = z at *
              have e1 : (z == 34) = false := beq_eq_false_iff_ne.2 n1
              have e2 : (z == 92) = false := beq_eq_false_iff_ne.2 n2
              have e3 : (z == 10) = false := beq_eq_false_iff_ne.2 n3
              have e4 : (z == 13) = false := beq_eq_false_iff_ne.2 n4
              have e5 : (z == 9) = false := beq_eq_false_iff_ne.2 n5
              go_wp2_with fail
              refine hT.out.mono ?_
              rintro E w2 ⟨rfl, hb⟩
              have HB1 := Lib.hid (bon HB.out hb)
              clear hb hT HB
              go_wp2
              go_roundw
              case rel => exact ⟨j + 1, by omega, rfl, by go_num, HB1⟩
              case measure => simp [intOf]; omega
            · by_cases c4 : a.toNat < 32
              · obtain ⟨q1, q2⟩ := qb_mid ⟨a.toNat, c4⟩ (by simp only; omega)
                simp only [UInt8.ofNat_toNat] at q1 q2
                rw [q1, ← List.append_assoc] at hst
                have k1 := fun W => hap (qo s j) [92, 117, 48, 48] (by omega) (by simp) W
                have k2 := fun W => hap (qo s j ++ [92, 117, 48, 48]) (dgs 16 a.toNat) (by rw [List.length_append]; simp only [List.length_cons, List.length_nil]; omega) (by omega) W
                rw [tb_app, show tb [92, 117, 48, 48] = ⟨#[92, 117, 48, 48]⟩ from rfl] at k1
                rw [tb_app, ← hst] at k2
                have hT := Lib.hid (rtext16 a.toNat (by omega) wr)
                have hw2 : IntKind.i64.wrap (a.toNat : Int) = (a.toNat : Int) := wrp _ (by omega) (by omega)
                have l1 : ¬ (a.toNat : Int) < 16 := by omega
                have l2 : (a.toNat : Int) < 32 := by omega
                clear hap hst c1 c2 c3 c4 q1 q2 hxt ha8
                generalize dgs 16 a.toNat = D at *
                generalize (a.toNat : Int) = z at *
                have e1 : (z == 34) = false := beq_eq_false_iff_ne.2 n1
                have e2 : (z == 92) = false := beq_eq_false_iff_ne.2 n2
                have e3 : (z == 10) = false := beq_eq_false_iff_ne.2 n3
                have e4 : (z == 13) = false := beq_eq_false_iff_ne.2 n4
                have e5 : (z == 9) = false := beq_eq_false_iff_ne.2 n5
                go_wp2_with fail
                refine hT.out.mono ?_
                rintro E w2 ⟨rfl, hb⟩
                have HB1 := Lib.hid (bon HB.out hb)
                clear hb hT HB
                go_wp2
                go_roundw
                case rel => exact ⟨j + 1, by omega, rfl, by go_num, HB1⟩
                case measure => simp [intOf]; omega
              · have hqb : qb a = [a] := by
                  unfold qb
                  rw [if_neg (fun e => c1 (.inl e)), if_neg (fun e => c1 (.inr e)), if_neg (fun e => c2 (.inl e)), if_neg (fun e => c2 (.inr (.inl e))), if_neg (fun e => c2 (.inr (.inr e))), if_neg c4]
                rw [hqb] at hst
                have k1 := fun W => hap (qo s j) [a] (by omega) (by simp) W
                rw [tb_app, ← hst] at k1
                have l1 : ¬ (a.toNat : Int) < 16 := by omega
                have l2 : ¬ (a.toNat : Int) < 32 := by omega
                clear hap hst c1 c2 c3 c4 hqb ha8
                generalize (a.toNat : Int) = z at *
                have e1 : (z == 34) = false := beq_eq_false_iff_ne.2 n1
                have e2 : (z == 92) = false := beq_eq_false_iff_ne.2 n2
                have e3 : (z == 10) = false := beq_eq_false_iff_ne.2 n3
                have e4 : (z == 13) = false := beq_eq_false_iff_ne.2 n4
                have e5 : (z == 9) = false := beq_eq_false_iff_ne.2 n5
                go_wp2
                go_roundw
                case rel => exact ⟨j + 1, by omega, rfl, by go_num, HB⟩
                case measure => simp [intOf]; omega
end Go.Proofs.YtnkhghjcfhpeiaaGreatDoor
