/-
  Texts in JSON as lists alone: characters, what is quoted, what a literal stands for.
-/
import Derived.Test.YtmogeehhlfjlcaaDoorFm
namespace Go.Proofs.YtmogeehhlfjlcaaDoor

/-- is a byte one behind the first one of a character? -/
def contB (b : UInt8) : Bool := decide (128 ≤ b.toNat) && decide (b.toNat ≤ 191)
def cp3 (a b c : UInt8) : Nat := a.toNat % 16 * 4096 + b.toNat % 64 * 64 + c.toNat % 64
def cp4 (a b c d : UInt8) : Nat := a.toNat % 8 * 262144 + b.toNat % 64 * 4096 + c.toNat % 64 * 64 + d.toNat % 64
/-- how many bytes a character has that begins so -/
def need (a : UInt8) : Nat := if a.toNat < 128 then 1 else if a.toNat < 194 then 0 else if a.toNat < 224 then 2 else if a.toNat < 240 then 3 else if a.toNat < 245 then 4 else 0
/-- are these the bytes of one character? -/
def charB : Bs → Bool
  | [a] => decide (a.toNat < 128)
  | [a, b] => decide (194 ≤ a.toNat) && decide (a.toNat < 224) && contB b
  | [a, b, c] => decide (224 ≤ a.toNat) && decide (a.toNat < 240) && contB b && contB c && decide (2048 ≤ cp3 a b c) && (decide (cp3 a b c < 55296) || decide (57343 < cp3 a b c))
  | [a, b, c, d] => decide (240 ≤ a.toNat) && decide (a.toNat < 245) && contB b && contB c && contB d && decide (65536 ≤ cp4 a b c d) && decide (cp4 a b c d ≤ 1114111)
  | _ => false
/-- how many bytes a text's first character has; 0: there is none -/
def wid (l : Bs) : Nat := match l with | [] => 0 | a :: t => if charB ((a :: t).take (need a)) = true then need a else 0

theorem char_need {ch : Bs} (h : charB ch = true) : ∃ a t, ch = a :: t ∧ need a = ch.length := by
  unfold charB at h
  split at h
  · rename_i a
    exact ⟨a, [], rfl, by unfold need; rw [if_pos (by simpa using h)]; rfl⟩
  · rename_i a b
    simp only [Bool.and_eq_true, decide_eq_true_eq] at h
    exact ⟨a, [b], rfl, by unfold need; rw [if_neg (by omega), if_neg (by omega), if_pos (by omega)]; rfl⟩
  · rename_i a b c
    simp only [Bool.and_eq_true, decide_eq_true_eq] at h
    exact ⟨a, [b, c], rfl, by unfold need; rw [if_neg (by omega), if_neg (by omega), if_neg (by omega), if_pos (by omega)]; rfl⟩
  · rename_i a b c d
    simp only [Bool.and_eq_true, decide_eq_true_eq] at h
    exact ⟨a, [b, c, d], rfl, by unfold need; rw [if_neg (by omega), if_neg (by omega), if_neg (by omega), if_neg (by omega), if_pos (by omega)]; rfl⟩
  · cases h
theorem char_pos {ch : Bs} (h : charB ch = true) : 0 < ch.length := by
  obtain ⟨a, t, rfl, _⟩ := char_need h
  simp
theorem wid_char {ch : Bs} (h : charB ch = true) (r : Bs) : wid (ch ++ r) = ch.length := by
  obtain ⟨a, t, rfl, hn⟩ := char_need h
  show (if charB ((a :: (t ++ r)).take (need a)) = true then need a else 0) = _
  have e : (a :: (t ++ r)).take (need a) = a :: t := by
    rw [hn, show a :: (t ++ r) = (a :: t) ++ r from rfl, List.take_left]
  rw [e, if_pos h, hn]
theorem wid_split {l : Bs} (h : wid l ≠ 0) : charB (l.take (wid l)) = true ∧ wid l ≤ l.length := by
  match l with
  | [] => exact absurd rfl h
  | a :: t =>
    have e : wid (a :: t) = if charB ((a :: t).take (need a)) = true then need a else 0 := rfl
    rw [e] at h ⊢
    by_cases hc : charB ((a :: t).take (need a)) = true
    · rw [if_pos hc] at h ⊢
      refine ⟨hc, ?_⟩
      obtain ⟨a', t', h1, h2⟩ := char_need hc
      have h3 : a' = a := by
        obtain ⟨n, hn⟩ : ∃ n, need a = n + 1 := ⟨need a - 1, by omega⟩
        rw [hn, List.take_succ_cons] at h1
        exact (List.cons.inj h1).1.symm
      rw [h3, List.length_take] at h2
      omega
    · rw [if_neg hc] at h
      exact absurd rfl h

/-- texts of characters -/
inductive VL : Bs → Prop
  | nil : VL []
  | cons (ch r : Bs) : charB ch = true → VL r → VL (ch ++ r)
theorem VL.app {a b : Bs} (ha : VL a) (hb : VL b) : VL (a ++ b) := by
  induction ha with
  | nil => exact hb
  | cons ch r h _ ih => rw [List.append_assoc]; exact .cons ch _ h ih
theorem VL.one {ch : Bs} (h : charB ch = true) : VL ch := by
  have := VL.cons ch [] h .nil
  rwa [List.append_nil] at this
/-- is a text one of characters? -/
def validF : Nat → Bs → Bool
  | _, [] => true
  | 0, _ :: _ => false
  | n + 1, c :: t => if wid (c :: t) = 0 then false else validF n ((c :: t).drop (wid (c :: t)))
def validL (l : Bs) : Bool := validF l.length l
theorem validF_iff : ∀ (n : Nat) (l : Bs), l.length ≤ n → (validF n l = true ↔ VL l) := by
  intro n
  induction n with
  | zero =>
    intro l hl
    obtain rfl : l = [] := List.eq_nil_of_length_eq_zero (by omega)
    exact ⟨fun _ => .nil, fun _ => rfl⟩
  | succ n ih =>
    intro l hl
    match l with
    | [] => exact ⟨fun _ => .nil, fun _ => rfl⟩
    | c :: t =>
      rw [validF]
      by_cases h0 : wid (c :: t) = 0
      · rw [if_pos h0]
        refine ⟨fun h => (by cases h), fun h => ?_⟩
        exfalso
        obtain ⟨l', hl'⟩ : ∃ l', c :: t = l' := ⟨_, rfl⟩
        rw [hl'] at h h0
        cases h with
        | nil => cases hl'
        | cons ch r hc _ =>
          rw [wid_char hc] at h0
          have := char_pos hc
          omega
      · rw [if_neg h0]
        obtain ⟨h1, h2⟩ := wid_split h0
        have h3 : ((c :: t).drop (wid (c :: t))).length ≤ n := by
          rw [List.length_drop]
          simp only [List.length_cons] at hl ⊢
          omega
        rw [ih _ h3]
        refine ⟨fun h => ?_, fun h => ?_⟩
        · have := VL.cons _ _ h1 h
          rwa [List.take_append_drop] at this
        · obtain ⟨l', hl'⟩ : ∃ l', c :: t = l' := ⟨_, rfl⟩
          rw [hl'] at h ⊢
          cases h with
          | nil => cases hl'
          | cons ch r hc hr =>
            rw [wid_char hc, List.drop_left]
            exact hr
theorem valid_iff (l : Bs) : validL l = true ↔ VL l := validF_iff _ _ (Nat.le_refl _)

/-- a digit's byte, to the base 16 -/
def hexC (d : Nat) : UInt8 := if d < 10 then UInt8.ofNat (48 + d) else UInt8.ofNat (87 + d)
/-- the value of such a byte -/
def hexV (c : UInt8) : Option Nat := if 48 ≤ c.toNat ∧ c.toNat ≤ 57 then some (c.toNat - 48) else if 97 ≤ c.toNat ∧ c.toNat ≤ 102 then some (c.toNat - 87) else if 65 ≤ c.toNat ∧ c.toNat ≤ 70 then some (c.toNat - 55) else none
theorem hexV_C : ∀ d : Fin 16, hexV (hexC d.1) = some d.1 := by decide +kernel
theorem hexV_lt {c : UInt8} {n : Nat} (h : hexV c = some n) : n < 16 := by
  unfold hexV at h
  split at h
  · simp only [Option.some.injEq] at h; omega
  · split at h
    · simp only [Option.some.injEq] at h; omega
    · split at h
      · simp only [Option.some.injEq] at h; omega
      · cases h
/-- the number of the four digits that a text begins with -/
def hex4 : Bs → Option Nat
  | a :: b :: c :: d :: _ => match hexV a, hexV b, hexV c, hexV d with
    | some x, some y, some z, some u => some (((x * 16 + y) * 16 + z) * 16 + u)
    | _, _, _, _ => none
  | _ => none
theorem hex4_lt {l : Bs} {n : Nat} (h : hex4 l = some n) : n < 65536 ∧ 4 ≤ l.length := by
  unfold hex4 at h
  split at h
  · split at h
    · rename_i _ _ _ _ h1 h2 h3 h4
      simp only [Option.some.injEq] at h
      have := hexV_lt h1
      have := hexV_lt h2
      have := hexV_lt h3
      have := hexV_lt h4
      simp only [List.length_cons]
      omega
    · cases h
  · cases h
/-- a character's bytes -/
def encU (n : Nat) : Bs :=
  if n < 128 then [UInt8.ofNat n]
  else if n < 2048 then [UInt8.ofNat (192 + n / 64), UInt8.ofNat (128 + n % 64)]
  else if n < 65536 then [UInt8.ofNat (224 + n / 4096), UInt8.ofNat (128 + n / 64 % 64), UInt8.ofNat (128 + n % 64)]
  else [UInt8.ofNat (240 + n / 262144), UInt8.ofNat (128 + n / 4096 % 64), UInt8.ofNat (128 + n / 64 % 64), UInt8.ofNat (128 + n % 64)]
theorem nat8 {n : Nat} (h : n < 256) : (UInt8.ofNat n).toNat = n := UInt8.toNat_ofNat_of_lt' h
theorem charB3 (a b c : UInt8) : charB [a, b, c] = (decide (224 ≤ a.toNat) && decide (a.toNat < 240) && contB b && contB c && decide (2048 ≤ cp3 a b c) && (decide (cp3 a b c < 55296) || decide (57343 < cp3 a b c))) := rfl
theorem charB4 (a b c d : UInt8) : charB [a, b, c, d] = (decide (240 ≤ a.toNat) && decide (a.toNat < 245) && contB b && contB c && contB d && decide (65536 ≤ cp4 a b c d) && decide (cp4 a b c d ≤ 1114111)) := rfl
theorem byte_of {n : Nat} (h : n < 256) : ∃ a : UInt8, UInt8.ofNat n = a ∧ a.toNat = n := ⟨_, rfl, nat8 h⟩
theorem enc_char {n : Nat} (h1 : n < 1114112) (h2 : n < 55296 ∨ 57343 < n) : charB (encU n) = true ∧ (encU n).length ≤ 4 := by
  unfold encU
  by_cases c1 : n < 128
  · rw [if_pos c1]
    obtain ⟨a, ea, ha⟩ := byte_of (n := n) (by omega)
    rw [ea]
    exact ⟨decide_eq_true (by omega), by simp⟩
  · rw [if_neg c1]
    by_cases c2 : n < 2048
    · rw [if_pos c2]
      obtain ⟨a, ea, ha⟩ := byte_of (n := 192 + n / 64) (by omega)
      obtain ⟨b, eb, hb⟩ := byte_of (n := 128 + n % 64) (by omega)
      rw [ea, eb]
      refine ⟨?_, by simp⟩
      unfold charB contB
      rw [Bool.and_eq_true, Bool.and_eq_true, Bool.and_eq_true]
      exact ⟨⟨decide_eq_true (by omega), decide_eq_true (by omega)⟩, decide_eq_true (by omega), decide_eq_true (by omega)⟩
    · rw [if_neg c2]
      by_cases c3 : n < 65536
      · rw [if_pos c3]
        obtain ⟨a, ea, ha⟩ := byte_of (n := 224 + n / 4096) (by omega)
        obtain ⟨b, eb, hb⟩ := byte_of (n := 128 + n / 64 % 64) (by omega)
        obtain ⟨c, ec, hc⟩ := byte_of (n := 128 + n % 64) (by omega)
        rw [ea, eb, ec]
        have hcp : cp3 a b c = n := by unfold cp3; omega
        refine ⟨?_, by simp⟩
        rw [charB3, hcp]
        unfold contB
        rw [Bool.and_eq_true, Bool.or_eq_true, Bool.and_eq_true, Bool.and_eq_true, Bool.and_eq_true, Bool.and_eq_true, Bool.and_eq_true, Bool.and_eq_true]
        refine ⟨⟨⟨⟨⟨decide_eq_true (by omega), decide_eq_true (by omega)⟩, decide_eq_true (by omega), decide_eq_true (by omega)⟩, decide_eq_true (by omega), decide_eq_true (by omega)⟩, decide_eq_true (by omega)⟩, ?_⟩
        rcases h2 with h2 | h2
        · exact .inl (decide_eq_true h2)
        · exact .inr (decide_eq_true h2)
      · rw [if_neg c3]
        obtain ⟨a, ea, ha⟩ := byte_of (n := 240 + n / 262144) (by omega)
        obtain ⟨b, eb, hb⟩ := byte_of (n := 128 + n / 4096 % 64) (by omega)
        obtain ⟨c, ec, hc⟩ := byte_of (n := 128 + n / 64 % 64) (by omega)
        obtain ⟨d, ed, hd⟩ := byte_of (n := 128 + n % 64) (by omega)
        rw [ea, eb, ec, ed]
        have hcp : cp4 a b c d = n := by unfold cp4; omega
        refine ⟨?_, by simp⟩
        rw [charB4, hcp]
        unfold contB
        simp only [Bool.and_eq_true]
        exact ⟨⟨⟨⟨⟨⟨decide_eq_true (by omega), decide_eq_true (by omega)⟩, decide_eq_true (by omega), decide_eq_true (by omega)⟩, decide_eq_true (by omega), decide_eq_true (by omega)⟩, decide_eq_true (by omega), decide_eq_true (by omega)⟩, decide_eq_true (by omega)⟩, decide_eq_true (by omega)⟩
/-- what an escape of one byte stands for -/
def escC (e : UInt8) : Option UInt8 := if e = 34 then some 34 else if e = 92 then some 92 else if e = 47 then some 47 else if e = 98 then some 8 else if e = 102 then some 12 else if e = 110 then some 10 else if e = 114 then some 13 else if e = 116 then some 9 else none
/-- what an escape stands for, and its bytes, behind the backslash; 0 bytes: there is none -/
def escL : Bs → Bs × Nat
  | [] => ([], 0)
  | e :: r => match escC e with
    | some c => ([c], 1)
    | none => if e = 117 then (match hex4 r with
      | none => ([], 0)
      | some n => if 56320 ≤ n ∧ n ≤ 57343 then ([], 0) else if n < 55296 ∨ 56319 < n then (encU n, 5)
        else if (r.drop 4).take 2 = [92, 117] then (match hex4 (r.drop 6) with
          | none => ([], 0)
          | some m => if 56320 ≤ m ∧ m ≤ 57343 then (encU (65536 + (n - 55296) * 1024 + (m - 56320)), 11) else ([], 0)) else ([], 0)) else ([], 0)
theorem escC_lt {e c : UInt8} (h : escC e = some c) : c.toNat < 128 := by
  unfold escC at h
  repeat' split at h
  all_goals first | (cases h; decide) | cases h
theorem esc_good {l : Bs} {x : Bs} {n : Nat} (h : escL l = (x, n)) (hn : n ≠ 0) : VL x ∧ x.length ≤ n ∧ n ≤ l.length := by
  unfold escL at h
  split at h
  · exact absurd (Prod.mk.inj h).2.symm hn
  · rename_i e r
    split at h
    · rename_i c hc
      obtain ⟨rfl, rfl⟩ := Prod.mk.inj h
      exact ⟨.one (by simpa [charB] using escC_lt hc), by simp, by simp⟩
    · split at h
      · split at h
        · exact absurd (Prod.mk.inj h).2.symm hn
        · rename_i n1 h4
          have hl := hex4_lt h4
          split at h
          · exact absurd (Prod.mk.inj h).2.symm hn
          · split at h
            · rename_i q1 q2
              obtain ⟨rfl, rfl⟩ := Prod.mk.inj h
              have := enc_char (n := n1) (by omega) (by omega)
              exact ⟨.one this.1, by omega, by simp only [List.length_cons]; omega⟩
            · split at h
              · split at h
                · exact absurd (Prod.mk.inj h).2.symm hn
                · rename_i m h6
                  have hl6 := hex4_lt h6
                  rw [List.length_drop] at hl6
                  split at h
                  · obtain ⟨rfl, rfl⟩ := Prod.mk.inj h
                    have := enc_char (n := 65536 + (n1 - 55296) * 1024 + (m - 56320)) (by omega) (by omega)
                    exact ⟨.one this.1, by omega, by simp only [List.length_cons]; omega⟩
                  · exact absurd (Prod.mk.inj h).2.symm hn
              · exact absurd (Prod.mk.inj h).2.symm hn
      · exact absurd (Prod.mk.inj h).2.symm hn

/-- K3, behind the first byte: what was read, where, and what is left -/
def unqF : Nat → Bs → Nat → Bs → Bs × Nat × Int
  | _, _, i, [] => ([], i, 30)
  | 0, _, i, _ :: _ => ([], i, 30)
  | f + 1, out, i, c :: t =>
    if c = 34 then (out, i + 1, 0)
    else if c = 92 then (if (escL t).2 = 0 then ([], i, 30) else unqF f (out ++ (escL t).1) (i + 1 + (escL t).2) (t.drop (escL t).2))
    else if wid (c :: t) = 0 ∨ c.toNat < 32 then ([], i, 30) else unqF f (out ++ (c :: t).take (wid (c :: t))) (i + wid (c :: t)) ((c :: t).drop (wid (c :: t)))
/-- K3 -/
def unqL : Bs → Bs × Nat × Int
  | [] => ([], 0, 30)
  | c :: t => if c = 34 then unqF t.length [] 1 t else ([], 0, 30)
/-- what is told is valid, and no longer than it was -/
theorem unqF_good (N : Nat) : ∀ (f : Nat) (out : Bs) (i : Nat) (l : Bs), VL out → out.length + 1 ≤ i → i + l.length = N →
    (unqF f out i l).2.1 ≤ N ∧ ((unqF f out i l).2.2 ≠ 0 → (unqF f out i l).1 = [] ∧ (unqF f out i l).2.2 = 30) ∧ ((unqF f out i l).2.2 = 0 → VL (unqF f out i l).1 ∧ (unqF f out i l).1.length + 2 ≤ (unqF f out i l).2.1) := by
  intro f
  induction f with
  | zero =>
    intro out i l _ _ hN
    match l with
    | [] => exact ⟨by simp only [unqF]; simp at hN; omega, fun _ => ⟨rfl, rfl⟩, fun h => by simp [unqF] at h⟩
    | c :: t => exact ⟨by simp only [unqF]; omega, fun _ => ⟨rfl, rfl⟩, fun h => by simp [unqF] at h⟩
  | succ f ih =>
    intro out i l hv hl hN
    match l with
    | [] => exact ⟨by simp only [unqF]; simp at hN; omega, fun _ => ⟨rfl, rfl⟩, fun h => by simp [unqF] at h⟩
    | c :: t =>
      simp only [List.length_cons] at hN
      rw [unqF]
      split
      · exact ⟨by simp only; omega, fun h => absurd rfl h, fun _ => ⟨hv, by simp only; omega⟩⟩
      · split
        · split
          · exact ⟨by simp only; omega, fun _ => ⟨rfl, rfl⟩, fun h => by cases h⟩
          · rename_i h0
            obtain ⟨g1, g2, g3⟩ := esc_good (l := t) (x := (escL t).1) (n := (escL t).2) rfl h0
            exact ih _ _ _ (hv.app g1) (by rw [List.length_append]; omega) (by rw [List.length_drop]; omega)
        · split
          · exact ⟨by simp only; omega, fun _ => ⟨rfl, rfl⟩, fun h => by cases h⟩
          · rename_i h0
            have h1 : wid (c :: t) ≠ 0 := fun h => h0 (.inl h)
            obtain ⟨g1, g2⟩ := wid_split h1
            simp only [List.length_cons] at g2
            exact ih _ _ _ (hv.app (.one g1)) (by rw [List.length_append, List.length_take]; omega) (by rw [List.length_drop]; simp only [List.length_cons]; omega)
theorem unq_good (l : Bs) : (unqL l).2.1 ≤ l.length ∧ ((unqL l).2.2 ≠ 0 → (unqL l).1 = [] ∧ (unqL l).2.2 = 30) ∧ ((unqL l).2.2 = 0 → validL (unqL l).1 = true ∧ (unqL l).1.length + 2 ≤ (unqL l).2.1) := by
  match l with
  | [] => exact ⟨Nat.le_refl _, fun _ => ⟨rfl, rfl⟩, fun h => by simp [unqL] at h⟩
  | c :: t =>
    rw [unqL]
    split
    · have := unqF_good (t.length + 1) t.length [] 1 t .nil (by simp) (by omega)
      exact ⟨by simp only [List.length_cons]; omega, this.2.1, fun h => ⟨(valid_iff _).2 (this.2.2 h).1, (this.2.2 h).2⟩⟩
    · exact ⟨Nat.zero_le _, fun _ => ⟨rfl, rfl⟩, fun h => by cases h⟩

/-- K2: a byte -/
def qb (c : UInt8) : Bs := if c = 34 then [92, 34] else if c = 92 then [92, 92] else if c = 10 then [92, 110] else if c = 13 then [92, 114] else if c = 9 then [92, 116] else if c.toNat < 32 then [92, 117, 48, 48, hexC (c.toNat / 16), hexC (c.toNat % 16)] else [c]
def quoteL (s : Bs) : Bs := 34 :: (s.flatMap qb ++ [34])
/-- K2 -/
def quoteQ (s : Bs) : Bs × Int := if validL s = true then (quoteL s, 0) else ([], 30)
theorem esc_ctl {a : UInt8} (h : a.toNat < 32) (r : Bs) : escL (117 :: 48 :: 48 :: hexC (a.toNat / 16) :: hexC (a.toNat % 16) :: r) = ([a], 5) := by
  have h1 := hexV_C ⟨a.toNat / 16, by omega⟩
  have h2 := hexV_C ⟨a.toNat % 16, by omega⟩
  simp only at h1 h2
  have h3 : hex4 (48 :: 48 :: hexC (a.toNat / 16) :: hexC (a.toNat % 16) :: r) = some a.toNat := by
    have e0 : hexV 48 = some 0 := by decide
    simp only [hex4, h1, h2, e0]
    congr 1
    omega
  have h4 : escC 117 = none := by decide
  have h5 : encU a.toNat = [a] := by
    unfold encU
    rw [if_pos (by omega), UInt8.ofNat_toNat]
  simp only [escL, h4, h3, if_true]
  rw [if_neg (by omega), if_pos (by omega), h5]
theorem qb_big {b : UInt8} (h : 128 ≤ b.toNat) : qb b = [b] := by
  unfold qb
  rw [if_neg (by rintro rfl; exact absurd h (by decide)), if_neg (by rintro rfl; exact absurd h (by decide)), if_neg (by rintro rfl; exact absurd h (by decide)), if_neg (by rintro rfl; exact absurd h (by decide)), if_neg (by rintro rfl; exact absurd h (by decide)), if_neg (by omega)]
theorem contB_big {b : UInt8} (h : contB b = true) : 128 ≤ b.toNat := by
  unfold contB at h
  rw [Bool.and_eq_true, decide_eq_true_eq] at h
  exact h.1
theorem char_cases {ch : Bs} (h : charB ch = true) : (∃ a, ch = [a] ∧ a.toNat < 128) ∨ (ch.flatMap qb = ch ∧ ∃ a t, ch = a :: t ∧ 128 ≤ a.toNat) := by
  unfold charB at h
  split at h
  · exact .inl ⟨_, rfl, by simpa using h⟩
  · rename_i a b
    simp only [Bool.and_eq_true, decide_eq_true_eq] at h
    have ha : 128 ≤ a.toNat := by omega
    refine .inr ⟨?_, _, _, rfl, ha⟩
    simp [qb_big ha, qb_big (contB_big h.2)]
  · rename_i a b c
    simp only [Bool.and_eq_true, decide_eq_true_eq] at h
    have ha : 128 ≤ a.toNat := by omega
    refine .inr ⟨?_, _, _, rfl, ha⟩
    simp [qb_big ha, qb_big (contB_big h.1.1.1.2), qb_big (contB_big h.1.1.2)]
  · rename_i a b c d
    simp only [Bool.and_eq_true, decide_eq_true_eq] at h
    have ha : 128 ≤ a.toNat := by omega
    refine .inr ⟨?_, _, _, rfl, ha⟩
    simp [qb_big ha, qb_big (contB_big h.1.1.1.1.2), qb_big (contB_big h.1.1.1.2), qb_big (contB_big h.1.1.2)]
  · cases h
/-- one byte that was quoted is read -/
theorem unq_byte {a : UInt8} (ha : a.toNat < 128) (f : Nat) (out : Bs) (i : Nat) (r : Bs) : unqF (f + 1) out i (qb a ++ r) = unqF f (out ++ [a]) (i + (qb a).length) r := by
  unfold qb
  split
  · rename_i h; subst h
    rfl
  · split
    · rename_i h; subst h
      rfl
    · split
      · rename_i h; subst h
        rfl
      · split
        · rename_i h; subst h
          rfl
        · split
          · rename_i h; subst h
            rfl
          · split
            · rename_i n1 n2 n3 n4 n5 hlt
              show unqF (f + 1) out i (92 :: (117 :: 48 :: 48 :: hexC (a.toNat / 16) :: hexC (a.toNat % 16) :: r)) = _
              rw [unqF, if_neg (by decide), if_pos rfl, esc_ctl hlt, if_neg (by simp)]
              rfl
            · rename_i n1 n2 n3 n4 n5 hlt
              have hc : charB [a] = true := by simpa [charB] using ha
              have hw := wid_char hc r
              rw [show ([a] : Bs) ++ r = a :: r from rfl] at hw ⊢
              rw [unqF, if_neg n1, if_neg n2, hw, if_neg (by simp; omega)]
              rfl
theorem unq_char {ch : Bs} (h : charB ch = true) (f : Nat) (out : Bs) (i : Nat) (r : Bs) : unqF (f + 1) out i (ch.flatMap qb ++ r) = unqF f (out ++ ch) (i + (ch.flatMap qb).length) r := by
  rcases char_cases h with ⟨a, rfl, ha⟩ | ⟨h1, a, t, rfl, ha⟩
  · rw [show [a].flatMap qb = qb a by simp]
    exact unq_byte ha f out i r
  · rw [h1]
    have hw := wid_char h r
    have hp := char_pos h
    rw [show (a :: t) ++ r = a :: (t ++ r) from rfl] at hw ⊢
    rw [unqF, if_neg (by rintro rfl; exact absurd ha (by decide)), if_neg (by rintro rfl; exact absurd ha (by decide)), hw, if_neg (by omega)]
    rw [show a :: (t ++ r) = (a :: t) ++ r from rfl, List.take_left, List.drop_left]
theorem qb_pos (c : UInt8) : 1 ≤ (qb c).length := by
  unfold qb
  repeat' split
  all_goals simp
theorem flat_pos (s : Bs) : s.length ≤ (s.flatMap qb).length := by
  induction s with
  | nil => simp
  | cons c t ih =>
    rw [List.flatMap_cons, List.length_append]
    have := qb_pos c
    simp only [List.length_cons]
    omega
theorem unq_flat {s : Bs} (h : VL s) : ∀ (f : Nat) (out : Bs) (i : Nat) (more : Bs), s.length + 1 ≤ f → unqF f out i (s.flatMap qb ++ 34 :: more) = (out ++ s, i + (s.flatMap qb).length + 1, 0) := by
  induction h with
  | nil =>
    intro f out i more hf
    obtain ⟨g, rfl⟩ : ∃ g, f = g + 1 := ⟨f - 1, by omega⟩
    simp [unqF]
  | cons ch r hc _ ih =>
    intro f out i more hf
    have hp := char_pos hc
    rw [List.length_append] at hf
    obtain ⟨g, rfl⟩ : ∃ g, f = g + 1 := ⟨f - 1, by omega⟩
    rw [List.flatMap_append, List.append_assoc, unq_char hc, ih g _ _ more (by omega), List.append_assoc, List.length_append]
    congr 2
    omega
/-- K4: Unquote undoes Quote -/
theorem unq_quote {s : Bs} (h : validL s = true) (more : Bs) : unqL (quoteL s ++ more) = (s, (quoteL s).length, 0) := by
  have hv := (valid_iff s).1 h
  have e : quoteL s ++ more = 34 :: (s.flatMap qb ++ 34 :: more) := by simp [quoteL]
  rw [e, unqL, if_pos rfl, unq_flat hv _ [] 1 more (by
    rw [List.length_append]
    have := flat_pos s
    simp only [List.length_cons]
    omega)]
  simp [quoteL]
  omega
end Go.Proofs.YtmogeehhlfjlcaaDoor
