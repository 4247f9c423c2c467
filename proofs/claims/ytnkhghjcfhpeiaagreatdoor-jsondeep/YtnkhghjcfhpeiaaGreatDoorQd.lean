/-
  What a range over a text decodes, by characters.
-/
import Derived.Test.YtnkhghjcfhpeiaaGreatDoorJFm
import Derived.Test.YtnkhghjcfhpeiaaGreatDoorJWords
import Derived.Lib.DecodeN
namespace Go.Proofs.YtnkhghjcfhpeiaaGreatDoor
open Go.RowKit
/-- the code point of a character's bytes -/
def cpL : Bs → Nat
  | [a] => a.toNat
  | [a, b] => a.toNat % 32 * 64 + b.toNat % 64
  | [a, b, c] => cp3 a b c
  | [a, b, c, d] => cp4 a b c d
  | _ => 0
theorem get_dl (s : ByteArray) (j : Nat) : s.get! j = ((dl s)[j]?).getD 0 := by
  cases s with
  | mk d =>
    show d[j]! = (d.toList[j]?).getD 0
    rw [getElem!_def, Array.getElem?_toList]
    cases d[j]? <;> rfl
theorem wid_eq (a : UInt8) (t : Bs) : wid (a :: t) = if charB ((a :: t).take (need a)) = true then need a else 0 := rfl
def decR (l : Bs) : Nat × Nat := if wid l = 0 then (65533, 1) else (cpL (l.take (wid l)), wid l)
theorem cont_iff (b : UInt8) : contB b = true ↔ b.toNat / 64 = 2 := by
  have := b.toNat_lt
  unfold contB
  rw [Bool.and_eq_true, decide_eq_true_eq, decide_eq_true_eq]
  omega
theorem decR_1 {a : UInt8} (h : a.toNat < 128) (t : Bs) : decR (a :: t) = (a.toNat, 1) := by
  have hn : need a = 1 := by unfold need; rw [if_pos h]
  have hc : charB ((a :: t).take 1) = true := decide_eq_true h
  unfold decR
  rw [wid_eq, hn, if_pos hc, if_neg (by decide)]
  rfl
theorem decR_0 {a : UInt8} (h : need a = 0) (t : Bs) : decR (a :: t) = (65533, 1) := by
  unfold decR
  rw [wid_eq, h]
  rfl
theorem decR_no {a : UInt8} {t : Bs} (h : charB ((a :: t).take (need a)) = false) : decR (a :: t) = (65533, 1) := by
  have hw : wid (a :: t) = 0 := by rw [wid_eq, h]; rfl
  unfold decR
  rw [if_pos hw]
theorem decR_yes {a : UInt8} {t : Bs} (h : charB ((a :: t).take (need a)) = true) : decR (a :: t) = (cpL ((a :: t).take (need a)), need a) := by
  have hp : need a ≠ 0 := by
    intro h0
    rw [h0] at h
    cases h
  unfold decR
  rw [wid_eq, if_pos h, if_neg hp]
set_option maxRecDepth 100000 in
set_option maxHeartbeats 2000000 in
theorem decN_eq (a : UInt8) (t : Bs) : Lib.decodeN (t.length + 1) a.toNat (t[0]?.getD 0).toNat (t[1]?.getD 0).toNat (t[2]?.getD 0).toNat = decR (a :: t) := by
  have ha := a.toNat_lt
  by_cases h1 : a.toNat < 128
  · rw [decR_1 h1, Lib.decodeN, if_pos h1]
  · by_cases h2 : a.toNat < 194
    · have hn : need a = 0 := by unfold need; rw [if_neg h1, if_pos h2]
      rw [decR_0 hn]
      unfold Lib.decodeN
      repeat' split
      all_goals first | rfl | (exfalso; omega)
    · by_cases h3 : a.toNat < 224
      · have hn : need a = 2 := by unfold need; rw [if_neg h1, if_neg h2, if_pos h3]
        match t with
        | [] =>
          rw [decR_no (by rw [hn]; exact (decide_eq_false h1))]
          unfold Lib.decodeN
          simp only [List.length_nil]
          repeat' split
          all_goals first | rfl | (exfalso; omega)
        | b :: t =>
          have hcc := cont_iff b
          cases hc : contB b with
          | true =>
            have hb := hcc.1 hc
            rw [decR_yes (by rw [hn]; show (decide (194 ≤ a.toNat) && decide (a.toNat < 224) && contB b) = true; rw [hc, decide_eq_true (by omega), decide_eq_true h3]; rfl), hn]
            unfold Lib.decodeN
            simp only [List.length_cons, List.getElem?_cons_zero, Option.getD_some, List.take_succ_cons, List.take_zero, cpL]
            repeat' split
            all_goals first | rfl | (exfalso; omega)
          | false =>
            have hb : ¬ b.toNat / 64 = 2 := fun h => by rw [hcc.2 h] at hc; cases hc
            rw [decR_no (by rw [hn]; show (decide (194 ≤ a.toNat) && decide (a.toNat < 224) && contB b) = false; rw [hc, Bool.and_false])]
            unfold Lib.decodeN
            simp only [List.length_cons, List.getElem?_cons_zero, Option.getD_some]
            repeat' split
            all_goals first | rfl | (exfalso; omega)
      · by_cases h4 : a.toNat < 240
        · have hn : need a = 3 := by unfold need; rw [if_neg h1, if_neg h2, if_neg h3, if_pos h4]
          match t with
          | [] =>
            rw [decR_no (by rw [hn]; exact (decide_eq_false h1))]
            unfold Lib.decodeN
            simp only [List.length_nil]
            repeat' split
            all_goals first | rfl | (exfalso; omega)
          | [b] =>
            rw [decR_no (by rw [hn]; show (decide (194 ≤ a.toNat) && decide (a.toNat < 224) && contB b) = false; rw [decide_eq_false h3, Bool.and_false, Bool.false_and])]
            unfold Lib.decodeN
            simp only [List.length_cons, List.length_nil]
            repeat' split
            all_goals first | rfl | (exfalso; omega)
          | b :: c :: t =>
            have hcb := cont_iff b
            have hcc := cont_iff c
            have hlt := b.toNat_lt
            have hlt2 := c.toNat_lt
            cases hch : charB [a, b, c] with
            | true =>
              rw [decR_yes (by rw [hn]; exact hch), hn]
              rw [charB3] at hch
              simp only [Bool.and_eq_true, Bool.or_eq_true, decide_eq_true_eq] at hch
              obtain ⟨⟨⟨⟨⟨_, _⟩, q1⟩, q2⟩, q3⟩, q4⟩ := hch
              have hb := hcb.1 q1
              have hc := hcc.1 q2
              unfold cp3 at q3 q4
              unfold Lib.decodeN
              simp only [List.length_cons, List.getElem?_cons_zero, List.getElem?_cons_succ, Option.getD_some, List.take_succ_cons, List.take_zero, cpL, cp3]
              repeat' split
              all_goals first | rfl | (exfalso; omega)
            | false =>
              rw [decR_no (by rw [hn]; exact hch)]
              have hP : ¬ (b.toNat / 64 = 2 ∧ c.toNat / 64 = 2 ∧ 2048 ≤ a.toNat % 16 * 4096 + b.toNat % 64 * 64 + c.toNat % 64 ∧ (a.toNat % 16 * 4096 + b.toNat % 64 * 64 + c.toNat % 64 < 55296 ∨ 57343 < a.toNat % 16 * 4096 + b.toNat % 64 * 64 + c.toNat % 64)) := by
                rintro ⟨q1, q2, q3, q4⟩
                rw [charB3, hcb.2 q1, hcc.2 q2, decide_eq_true (show 224 ≤ a.toNat by omega), decide_eq_true h4] at hch
                unfold cp3 at hch
                rw [decide_eq_true q3] at hch
                rcases q4 with q4 | q4
                · rw [decide_eq_true q4] at hch; cases hch
                · rw [decide_eq_true q4, Bool.or_true] at hch; cases hch
              unfold Lib.decodeN
              simp only [List.length_cons, List.getElem?_cons_zero, List.getElem?_cons_succ, Option.getD_some]
              repeat' split
              all_goals first | rfl | (exfalso; omega)
        · by_cases h5 : a.toNat < 245
          · have hn : need a = 4 := by unfold need; rw [if_neg h1, if_neg h2, if_neg h3, if_neg h4, if_pos h5]
            match t with
            | [] =>
              rw [decR_no (by rw [hn]; exact (decide_eq_false h1))]
              unfold Lib.decodeN
              simp only [List.length_nil]
              repeat' split
              all_goals first | rfl | (exfalso; omega)
            | [b] =>
              rw [decR_no (by rw [hn]; show (decide (194 ≤ a.toNat) && decide (a.toNat < 224) && contB b) = false; rw [decide_eq_false h3, Bool.and_false, Bool.false_and])]
              unfold Lib.decodeN
              simp only [List.length_cons, List.length_nil]
              repeat' split
              all_goals first | rfl | (exfalso; omega)
            | [b, c] =>
              rw [decR_no (by rw [hn]; show charB [a, b, c] = false; rw [charB3, decide_eq_false h4]; simp)]
              unfold Lib.decodeN
              simp only [List.length_cons, List.length_nil]
              repeat' split
              all_goals first | rfl | (exfalso; omega)
            | b :: c :: d :: t =>
              have hcb := cont_iff b
              have hcc := cont_iff c
              have hcd := cont_iff d
              have hlt := b.toNat_lt
              have hlt2 := c.toNat_lt
              have hlt3 := d.toNat_lt
              cases hch : charB [a, b, c, d] with
              | true =>
                rw [decR_yes (by rw [hn]; exact hch), hn]
                rw [charB4] at hch
                simp only [Bool.and_eq_true, decide_eq_true_eq] at hch
                obtain ⟨⟨⟨⟨⟨⟨_, _⟩, q1⟩, q2⟩, q3⟩, q4⟩, q5⟩ := hch
                have hb := hcb.1 q1
                have hc := hcc.1 q2
                have hd := hcd.1 q3
                unfold cp4 at q4 q5
                unfold Lib.decodeN
                simp only [List.length_cons, List.getElem?_cons_zero, List.getElem?_cons_succ, Option.getD_some, List.take_succ_cons, List.take_zero, cpL, cp4]
                repeat' split
                all_goals first | rfl | (exfalso; omega)
              | false =>
                rw [decR_no (by rw [hn]; exact hch)]
                have hP : ¬ (b.toNat / 64 = 2 ∧ c.toNat / 64 = 2 ∧ d.toNat / 64 = 2 ∧ 65536 ≤ a.toNat % 8 * 262144 + b.toNat % 64 * 4096 + c.toNat % 64 * 64 + d.toNat % 64 ∧ a.toNat % 8 * 262144 + b.toNat % 64 * 4096 + c.toNat % 64 * 64 + d.toNat % 64 ≤ 1114111) := by
                  rintro ⟨q1, q2, q3, q4, q5⟩
                  rw [charB4, hcb.2 q1, hcc.2 q2, hcd.2 q3, decide_eq_true (show 240 ≤ a.toNat by omega), decide_eq_true h5] at hch
                  unfold cp4 at hch
                  rw [decide_eq_true q4, decide_eq_true q5] at hch
                  cases hch
                unfold Lib.decodeN
                simp only [List.length_cons, List.getElem?_cons_zero, List.getElem?_cons_succ, Option.getD_some]
                repeat' split
                all_goals first | rfl | (exfalso; omega)
          · have hn : need a = 0 := by unfold need; rw [if_neg h1, if_neg h2, if_neg h3, if_neg h4, if_neg h5]
            rw [decR_0 hn]
            unfold Lib.decodeN
            repeat' split
            all_goals first | rfl | (exfalso; omega)
/-- what is decoded at a place hangs on what stands there: its first character, or the one that stands for none -/
theorem decode_is (s : ByteArray) (i : Nat) (hi : i < s.size) : Utf8.decode s i = decR ((dl s).drop i) := by
  have hl : i < (dl s).length := by rw [dl_len]; exact hi
  obtain ⟨a, ha⟩ : ∃ a, (dl s)[i] = a := ⟨_, rfl⟩
  have e : (dl s).drop i = a :: (dl s).drop (i + 1) := by rw [List.drop_eq_getElem_cons hl, ha]
  have hz : s.size - i = ((dl s).drop (i + 1)).length + 1 := by rw [List.length_drop, dl_len]; omega
  rw [Lib.decode_at, e, ← decN_eq, hz, get_dl, get_dl, get_dl, get_dl, List.getElem?_eq_getElem hl, ha]
  simp only [Option.getD_some, List.getElem?_drop]
end Go.Proofs.YtnkhghjcfhpeiaaGreatDoor
