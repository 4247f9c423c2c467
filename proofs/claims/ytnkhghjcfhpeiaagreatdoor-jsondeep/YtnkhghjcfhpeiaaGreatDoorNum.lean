/-
  Lists alone, for layer 3: what Add, Mul, Parse and Text come to, and that Parse undoes Text. (No word of the program stands here yet.)
-/
import Derived.WalkKit
namespace Go.Proofs.YtnkhghjcfhpeiaaGreatDoor

/-- does a number fit? -/
def fitN (n : Int) : Bool := decide (0 ≤ n) && decide (n ≤ 9007199254740992)
def addN (a b : Int) : Int × Int := if fitN a && fitN b then (if a + b ≤ 9007199254740992 then (a + b, 0) else (0, 3)) else (0, 1)
def mulN (a b : Int) : Int × Int := if fitN a && fitN b then (if a * b ≤ 9007199254740992 then (a * b, 0) else (0, 3)) else (0, 1)

theorem fit_iff {n : Int} : fitN n = true ↔ 0 ≤ n ∧ n ≤ 9007199254740992 := by simp [fitN]

/-- the quotient tells whether a product is too great -/
theorem mul_big {a b M : Int} (hb : 0 < b) : M / b < a ↔ M < a * b := by
  rw [Int.ediv_lt_iff_lt_mul hb]

/-- the value of a digit's byte, whatever the base; below 0: it is none -/
def digN (c : Nat) : Int := if 48 ≤ c ∧ c ≤ 57 then (c : Int) - 48 else if 97 ≤ c ∧ c ≤ 102 then (c : Int) - 87 else if 65 ≤ c ∧ c ≤ 70 then (c : Int) - 55 else -1
/-- .. to the base -/
def valN (c : Nat) (base : Int) : Int := if base ≤ digN c then -1 else digN c

theorem val_lt {c : Nat} {base : Int} (hb : 0 < base) : -1 ≤ valN c base ∧ valN c base < base := by
  unfold valN digN
  split <;> split <;> (try split) <;> (try split) <;> omega

/-- the number of the bytes s, from n on -/
def numN (base : Int) (n : Int) (s : List UInt8) : Int := s.foldl (fun n c => n * base + valN c.toNat base) n
/-- are all bytes digits? -/
def digsN (base : Int) (s : List UInt8) : Bool := s.all (fun c => decide (0 ≤ valN c.toNat base))

theorem num_ge {base : Int} (hb : 1 ≤ base) : ∀ (s : List UInt8) (n : Int), 0 ≤ n → digsN base s = true → n ≤ numN base n s
  | [], n, _, _ => Int.le_refl _
  | c :: s, n, hn, hd => by
    simp only [digsN, List.all_cons, Bool.and_eq_true, decide_eq_true_eq] at hd
    have h1 : n ≤ n * base := by
      have := Int.mul_le_mul_of_nonneg_left hb hn
      omega
    have h2 : (0 : Int) ≤ n * base := by omega
    have := num_ge hb s (n * base + valN c.toNat base) (by omega) hd.2
    show n ≤ numN base (n * base + valN c.toNat base) s
    omega

/-- Parse -/
def parseN (s : List UInt8) (base : Int) : Int × Int :=
  if (base = 10 ∨ base = 16) ∧ s ≠ [] ∧ digsN base s = true then (if numN base 0 s ≤ 9007199254740992 then (numN base 0 s, 0) else (0, 3)) else (0, 1)

theorem num_app (base n : Int) (s t : List UInt8) : numN base n (s ++ t) = numN base (numN base n s) t := by simp [numN, List.foldl_append]
theorem digs_app (base : Int) (s t : List UInt8) : digsN base (s ++ t) = (digsN base s && digsN base t) := by simp [digsN, List.all_append]

/-- the byte of a digit -/
def chN (d : Nat) : UInt8 := if d < 10 then (48 + d).toUInt8 else (87 + d).toUInt8

theorem val_ch {d : Nat} {base : Int} (h : d < 16) (hd : (d : Int) < base) : valN (chN d).toNat base = d := by
  have : ∀ d : Nat, d < 16 → digN (chN d).toNat = d := by decide
  unfold valN
  rw [this d h, if_neg (by omega)]

/-- the digits of n to the base b, the first one first -/
def dgs (b : Nat) (n : Nat) : List UInt8 := if _h : n < b ∨ b < 2 then [chN n] else dgs b (n / b) ++ [chN (n % b)]
  termination_by n
  decreasing_by exact Nat.div_lt_self (by omega) (by omega)

theorem dgs_small {b n : Nat} (h : n < b) : dgs b n = [chN n] := by
  rw [dgs, dif_pos (.inl h)]
theorem dgs_big {b n : Nat} (hb : 2 ≤ b) (h : b ≤ n) : dgs b n = dgs b (n / b) ++ [chN (n % b)] := by
  rw [dgs, dif_neg (by omega)]
theorem dgs_ne (b n : Nat) : dgs b n ≠ [] := by
  rw [dgs]
  split <;> simp

/-- the number of the digits of n is n, and they are digits -/
theorem num_dgs {b : Nat} (hb : 2 ≤ b) (hb2 : b ≤ 16) : ∀ n : Nat, numN b 0 (dgs b n) = n ∧ digsN b (dgs b n) = true := by
  intro n
  induction n using Nat.strongRecOn with
  | ind n ih =>
    by_cases h : n < b
    · rw [dgs_small h]
      have := val_ch (d := n) (base := (b : Int)) (by omega) (by omega)
      simp [numN, digsN, this]
    · obtain ⟨i1, i2⟩ := ih (n / b) (Nat.div_lt_self (by omega) (by omega))
      have hm : n % b < b := Nat.mod_lt _ (by omega)
      have hv := val_ch (d := n % b) (base := (b : Int)) (by omega) (by omega)
      rw [dgs_big hb (by omega), num_app, i1, digs_app, i2]
      have hdm := Nat.div_add_mod n b
      constructor
      · simp only [numN, List.foldl_cons, List.foldl_nil, hv]
        rw [← Int.natCast_mul, ← Int.natCast_add, Nat.mul_comm, hdm]
      · simp only [digsN, List.all_cons, List.all_nil, hv]
        simp
        omega

/-- Text -/
def textN (n base : Int) : List UInt8 := if fitN n = true ∧ (base = 10 ∨ base = 16) then dgs base.toNat n.toNat else []

theorem text_nil {n base : Int} (hb : base = 10 ∨ base = 16) : textN n base = [] ↔ ¬ (0 ≤ n ∧ n ≤ 9007199254740992) := by
  unfold textN
  constructor
  · intro h hf
    rw [if_pos ⟨fit_iff.2 hf, hb⟩] at h
    exact dgs_ne _ _ h
  · intro h
    rw [if_neg (fun hh => h (fit_iff.1 hh.1))]

/-- Parse undoes Text -/
theorem parse_text {n base : Int} (hb : base = 10 ∨ base = 16) (h0 : 0 ≤ n) (h1 : n ≤ 9007199254740992) : parseN (textN n base) base = (n, 0) := by
  obtain ⟨b, rfl⟩ := Int.eq_ofNat_of_zero_le (show 0 ≤ base by omega)
  obtain ⟨m, rfl⟩ := Int.eq_ofNat_of_zero_le h0
  have ht : textN (m : Int) (b : Int) = dgs b m := by
    rw [textN, if_pos ⟨fit_iff.2 ⟨h0, h1⟩, hb⟩]
    simp
  obtain ⟨i1, i2⟩ := num_dgs (b := b) (by omega) (by omega) m
  rw [ht, parseN, if_pos ⟨hb, dgs_ne _ _, i2⟩, i1, if_pos h1]

/-- noughts ahead make no difference -/
theorem parse_nought {s : List UInt8} {base : Int} (hb : base = 10 ∨ base = 16) (hs : s ≠ []) : parseN (48 :: s) base = parseN s base := by
  have hv : valN (48 : UInt8).toNat base = 0 := by rcases hb with rfl | rfl <;> decide
  have h1 : numN base 0 (48 :: s) = numN base 0 s := by
    show numN base (0 * base + valN (48 : UInt8).toNat base) s = _
    rw [hv]
    simp
  have h2 : digsN base (48 :: s) = digsN base s := by
    simp only [digsN, List.all_cons, hv]
    simp
  simp only [parseN, h1, h2, ne_eq, reduceCtorEq, not_false_eq_true, hs, true_and]

theorem parse_noughts {s : List UInt8} {base : Int} (hb : base = 10 ∨ base = 16) (hs : s ≠ []) : ∀ k, parseN (List.replicate k 48 ++ s) base = parseN s base
  | 0 => rfl
  | k + 1 => by
    rw [List.replicate_succ, List.cons_append, parse_nought hb (by simp [hs]), parse_noughts hb hs k]

end Go.Proofs.YtnkhghjcfhpeiaaGreatDoor
