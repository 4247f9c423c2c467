/-
  What the program's own calls of quote come to, as lists alone: characters by their code points, what is read at one place.
-/
import Derived.Test.YtnkhghjcfhpeiaaGreatDoorQd
import Derived.Test.YtnkhghjcfhpeiaaGreatDoorJWords
import Derived.Test.YtnkhghjcfhpeiaaGreatDoorNum
import Derived.Lib.RuneBytes
import Derived.Lib.Small
import Derived.Lib.Strings
import Derived.Test.YtnkhghjcfhpeiaaGreatDoorJFm
namespace Go.Proofs.YtnkhghjcfhpeiaaGreatDoor

theorem u8_eq {n : Nat} {a : UInt8} (h : n = a.toNat) : UInt8.ofNat n = a := by rw [h, UInt8.ofNat_toNat]
theorem contB_lt {b : UInt8} (h : contB b = true) : 128 ≤ b.toNat ∧ b.toNat < 192 := by
  unfold contB at h
  rw [Bool.and_eq_true, decide_eq_true_eq, decide_eq_true_eq] at h
  omega
/-- a character's bytes come back from its code point -/
theorem enc_cp {ch : Bs} (h : charB ch = true) : encU (cpL ch) = ch ∧ cpL ch < 1114112 ∧ (cpL ch < 55296 ∨ 57343 < cpL ch) ∧ Lib.runeLen (cpL ch : Int) = ch.length := by
  unfold charB at h
  split at h
  · rename_i a
    have h1 : a.toNat < 128 := by simpa using h
    have e : cpL [a] = a.toNat := rfl
    rw [e]
    refine ⟨?_, by omega, by omega, ?_⟩
    · unfold encU; rw [if_pos h1, u8_eq rfl]
    · unfold Lib.runeLen; rw [if_neg (by omega), if_pos (by omega)]; rfl
  · rename_i a b
    simp only [Bool.and_eq_true, decide_eq_true_eq] at h
    obtain ⟨⟨h1, h2⟩, h3⟩ := h
    have hb := contB_lt h3
    have e : cpL [a, b] = a.toNat % 32 * 64 + b.toNat % 64 := rfl
    rw [e]
    refine ⟨?_, by omega, by omega, ?_⟩
    · unfold encU; rw [if_neg (by omega), if_pos (by omega), u8_eq (a := a) (by omega), u8_eq (a := b) (by omega)]
    · unfold Lib.runeLen; rw [if_neg (by omega), if_neg (by omega), if_pos (by omega)]; rfl
  · rename_i a b c
    simp only [Bool.and_eq_true, Bool.or_eq_true, decide_eq_true_eq] at h
    obtain ⟨⟨⟨⟨⟨h1, h2⟩, h3⟩, h4⟩, h5⟩, h6⟩ := h
    have hb := contB_lt h3
    have hc := contB_lt h4
    have e : cpL [a, b, c] = cp3 a b c := rfl
    rw [e]
    have e3 : cp3 a b c = a.toNat % 16 * 4096 + b.toNat % 64 * 64 + c.toNat % 64 := rfl
    refine ⟨?_, by omega, by omega, ?_⟩
    · unfold encU; rw [if_neg (by omega), if_neg (by omega), if_pos (by omega), u8_eq (a := a) (by omega), u8_eq (a := b) (by omega), u8_eq (a := c) (by omega)]
    · unfold Lib.runeLen; rw [if_neg (by omega), if_neg (by omega), if_neg (by omega), if_neg (by omega), if_pos (by omega)]; rfl
  · rename_i a b c d
    simp only [Bool.and_eq_true, decide_eq_true_eq] at h
    obtain ⟨⟨⟨⟨⟨⟨h1, h2⟩, h3⟩, h4⟩, h5⟩, h6⟩, h7⟩ := h
    have hb := contB_lt h3
    have hc := contB_lt h4
    have hd := contB_lt h5
    have e : cpL [a, b, c, d] = cp4 a b c d := rfl
    rw [e]
    have e3 : cp4 a b c d = a.toNat % 8 * 262144 + b.toNat % 64 * 4096 + c.toNat % 64 * 64 + d.toNat % 64 := rfl
    refine ⟨?_, by omega, by omega, ?_⟩
    · unfold encU; rw [if_neg (by omega), if_neg (by omega), if_neg (by omega), u8_eq (a := a) (by omega), u8_eq (a := b) (by omega), u8_eq (a := c) (by omega), u8_eq (a := d) (by omega)]
    · unfold Lib.runeLen; rw [if_neg (by omega), if_neg (by omega), if_neg (by omega), if_neg (by omega), if_neg (by omega), if_pos (by omega)]; rfl
  · cases h

theorem vl_step {l : Bs} (h : l ≠ []) : VL l ↔ wid l ≠ 0 ∧ VL (l.drop (wid l)) := by
  constructor
  · intro hv
    cases hv with
    | nil => exact absurd rfl h
    | cons ch r hc hr =>
      rw [wid_char hc, List.drop_left]
      have := char_pos hc
      exact ⟨by omega, hr⟩
  · rintro ⟨h1, h2⟩
    obtain ⟨h3, _⟩ := wid_split h1
    have := VL.cons _ _ h3 h2
    rwa [List.take_append_drop] at this

/-- does a text begin with what is no character? -/
theorem pre_iff (l p : Bs) : Lib.hasPrefix l p = true ↔ ∃ r, l = p ++ r := by
  unfold Lib.hasPrefix
  rw [List.isPrefixOf_iff_prefix]
  exact ⟨fun ⟨r, h⟩ => ⟨r, h.symm⟩, fun ⟨r, h⟩ => ⟨r, h.symm⟩⟩
theorem dec_fst {l : Bs} (h : wid l ≠ 0) : (decR l).1 = cpL (l.take (wid l)) := by unfold decR; rw [if_neg h]
theorem dec_snd {l : Bs} (h : wid l ≠ 0) : (decR l).2 = wid l := by unfold decR; rw [if_neg h]
theorem dec_none {l : Bs} (h : wid l = 0) : decR l = (65533, 1) := by unfold decR; rw [if_pos h]
theorem broken_is {l : Bs} : ((decR l).1 = 65533 ∧ Lib.hasPrefix l [239, 191, 189] = false) ↔ wid l = 0 := by
  constructor
  · rintro ⟨h1, h2⟩
    refine Classical.byContradiction fun h0 => ?_
    rw [dec_fst h0] at h1
    obtain ⟨h3, _⟩ := wid_split h0
    have h4 := (enc_cp h3).1
    rw [h1] at h4
    have h5 : Lib.hasPrefix l [239, 191, 189] = true := (pre_iff _ _).2 ⟨l.drop (wid l), by
      have := (List.take_append_drop (wid l) l).symm
      rw [← h4] at this
      exact this⟩
    rw [h5] at h2
    cases h2
  · intro h0
    refine ⟨by rw [dec_none h0], ?_⟩
    cases hp : Lib.hasPrefix l [239, 191, 189] with
    | false => rfl
    | true =>
      obtain ⟨r, rfl⟩ := (pre_iff _ _).1 hp
      rw [wid_char (ch := [239, 191, 189]) (by decide)] at h0
      cases h0
theorem dec_big {a : UInt8} {t : Bs} (h : 128 ≤ a.toNat) : 128 ≤ (decR (a :: t)).1 := by
  by_cases h0 : wid (a :: t) = 0
  · rw [dec_none h0]; decide
  · rw [dec_fst h0]
    obtain ⟨h3, _⟩ := wid_split h0
    refine Nat.le_of_not_lt fun hlt => ?_
    have h4 := (enc_cp h3).1
    unfold encU at h4
    rw [if_pos hlt] at h4
    obtain ⟨n, hn⟩ : ∃ n, wid (a :: t) = n + 1 := ⟨wid (a :: t) - 1, by omega⟩
    rw [hn, List.take_succ_cons] at h4 hlt
    obtain ⟨k, hk⟩ : ∃ k, cpL (a :: t.take n) = k := ⟨_, rfl⟩
    rw [hk] at h4 hlt
    have h5 := congrArg UInt8.toNat (List.cons.inj h4).1
    rw [nat8 (by omega)] at h5
    omega
theorem dec_low {a : UInt8} {t : Bs} {n : Nat} (hn : n < 128) : (decR (a :: t)).1 = n ↔ a.toNat = n := by
  by_cases h : a.toNat < 128
  · rw [decR_1 h]
  · have := dec_big (a := a) (t := t) (by omega)
    omega
theorem dec_lt {a : UInt8} {t : Bs} {n : Nat} (hn : n ≤ 128) : (decR (a :: t)).1 < n ↔ a.toNat < n := by
  by_cases h : a.toNat < 128
  · rw [decR_1 h]
  · have := dec_big (a := a) (t := t) (by omega)
    omega
theorem dec_max (l : Bs) : (decR l).1 < 1114112 ∧ 1 ≤ (decR l).2 ∧ (decR l).2 ≤ 4 := by
  by_cases h0 : wid l = 0
  · rw [dec_none h0]; decide
  · rw [dec_fst h0, dec_snd h0]
    obtain ⟨h3, h4⟩ := wid_split h0
    have h5 := (enc_cp h3).2.1
    refine ⟨h5, by omega, ?_⟩
    have h6 := enc_char (n := cpL (l.take (wid l))) (by omega) (enc_cp h3).2.2.1
    rw [(enc_cp h3).1, List.length_take] at h6
    omega
theorem dec_fits {l : Bs} (h : l ≠ []) : (decR l).2 ≤ l.length := by
  by_cases h0 : wid l = 0
  · rw [dec_none h0]
    cases l with
    | nil => exact absurd rfl h
    | cons a t => simp
  · rw [dec_snd h0]
    exact (wid_split h0).2

/-- the library's bytes of a character are these -/
theorem lib_enc {n : Nat} (h1 : n < 1114112) (h2 : n < 55296 ∨ 57343 < n) : Lib.encodeRune (n : Int) = encU n := by
  have tb8 : ∀ k : Nat, ((k : Int).toNat).toUInt8 = UInt8.ofNat k := fun k => rfl
  unfold Lib.encodeRune encU
  by_cases c1 : n < 128
  · rw [Lib.encodeRuneZ_one (by omega) (by omega), if_pos c1]
    rfl
  · by_cases c2 : n < 2048
    · rw [Lib.encodeRuneZ_two (by omega) (by omega), if_neg c1, if_pos c2]
      rfl
    · by_cases c3 : n < 65536
      · rw [Lib.encodeRuneZ_three (by omega), if_neg c1, if_neg c2, if_pos c3]
        rfl
      · rw [Lib.encodeRuneZ_four (by omega) (by omega), if_neg c1, if_neg c2, if_neg c3]
        rfl
theorem utf_enc {n : Nat} (h1 : n < 1114112) (h2 : n < 55296 ∨ 57343 < n) : Utf8.encode (n : Int) = tb (encU n) := by
  have hv : Utf8.valid (n : Int) = true := by
    unfold Utf8.valid
    rw [Bool.or_eq_true, Bool.and_eq_true, Bool.and_eq_true, decide_eq_true_eq, decide_eq_true_eq, decide_eq_true_eq, decide_eq_true_eq]
    omega
  unfold Utf8.encode encU
  simp only [hv, if_true, Int.toNat_natCast]
  repeat' split
  all_goals first | rfl | (exfalso; omega)

/-- four digits, as the program's Parse reads them -/
theorem val16 (c : UInt8) : valN c.toNat 16 = match hexV c with | some n => (n : Int) | none => -1 := by
  have hd : digN c.toNat < 16 := by unfold digN; split <;> (try split) <;> (try split) <;> omega
  unfold valN
  rw [if_neg (by omega)]
  unfold digN hexV
  by_cases h1 : 48 ≤ c.toNat ∧ c.toNat ≤ 57
  · rw [if_pos h1, if_pos h1]; simp only; omega
  · rw [if_neg h1, if_neg h1]
    by_cases h2 : 97 ≤ c.toNat ∧ c.toNat ≤ 102
    · rw [if_pos h2, if_pos h2]; simp only; omega
    · rw [if_neg h2, if_neg h2]
      by_cases h3 : 65 ≤ c.toNat ∧ c.toNat ≤ 70
      · rw [if_pos h3, if_pos h3]; simp only; omega
      · rw [if_neg h3, if_neg h3]
theorem parse4 {l : Bs} (h : 4 ≤ l.length) : parseN (l.take 4) 16 = match hex4 l with | some n => ((n : Int), 0) | none => (0, 1) := by
  match l, h with
  | a :: b :: c :: d :: r, _ =>
    have e4 : (a :: b :: c :: d :: r).take 4 = [a, b, c, d] := rfl
    rw [e4]
    unfold parseN hex4
    have w1 := val16 a
    have w2 := val16 b
    have w3 := val16 c
    have w4 := val16 d
    simp only [digsN, numN, List.all_cons, List.all_nil, List.foldl_cons, List.foldl_nil, Bool.and_true, Bool.and_eq_true, decide_eq_true_eq]
    cases h1 : hexV a with
    | none => rw [h1] at w1; simp only at w1; rw [if_neg (by omega)]
    | some x =>
      cases h2 : hexV b with
      | none => rw [h2] at w2; simp only at w2; rw [if_neg (by omega)]
      | some y =>
        cases h3 : hexV c with
        | none => rw [h3] at w3; simp only at w3; rw [if_neg (by omega)]
        | some z =>
          cases h4 : hexV d with
          | none => rw [h4] at w4; simp only at w4; rw [if_neg (by omega)]
          | some u =>
            rw [h1] at w1; rw [h2] at w2; rw [h3] at w3; rw [h4] at w4
            simp only at w1 w2 w3 w4
            have := hexV_lt h1
            have := hexV_lt h2
            have := hexV_lt h3
            have := hexV_lt h4
            rw [if_pos ⟨.inr trivial, by simp, by omega, by omega, by omega, by omega⟩]
            refine (if_pos (by omega)).trans ?_
            simp only [w1, w2, w3, w4, Prod.mk.injEq, and_true]
            omega

/-- the code point that an escape tells, that a text begins with -/
def ptL (l : Bs) : Option Nat := if l.take 2 = [92, 117] then hex4 (l.drop 2) else none
/-- what escapes of code points stand for, and their bytes; 0: none -/
def ptR (l : Bs) : Nat × Nat := match ptL l with
  | none => (0, 0)
  | some n => if n < 55296 ∨ 57344 ≤ n then (n, 6) else match ptL (l.drop 6) with
    | none => (0, 0)
    | some m => if 56320 ≤ n ∨ m < 56320 ∨ 57344 ≤ m then (0, 0) else (65536 + (n - 55296) * 1024 + m - 56320, 12)
/-- what an escape stands for, behind the backslash -/
def escR (l : Bs) : Nat × Nat :=
  if l.take 2 = [92, 117] then ptR l else match l with
  | _ :: e :: _ => (match escC e with | some c => (c.toNat, 2) | none => (0, 0))
  | _ => (0, 0)
/-- what stands at one place in a literal, and its bytes -/
def readR (l : Bs) : Nat × Nat := if l.take 1 = [92] then escR l else if wid l = 0 ∨ (decR l).1 < 32 then (0, 0) else ((decR l).1, wid l)
theorem hex4_some {l : Bs} {n : Nat} (h : hex4 l = some n) : 4 ≤ l.length ∧ ∀ b ∈ l.take 4, b.toNat < 128 := by
  refine ⟨(hex4_lt h).2, ?_⟩
  have hx : ∀ {c : UInt8} {k : Nat}, hexV c = some k → c.toNat < 128 := by
    intro c k hk
    unfold hexV at hk
    split at hk
    · omega
    · split at hk
      · omega
      · split at hk
        · omega
        · cases hk
  match l with
  | a :: b :: c :: d :: r0 =>
    unfold hex4 at h
    simp only at h
    split at h
    · rename_i h1 h2 h3 h4
      intro q hq
      have e4 : ∀ (r : Bs), (a :: b :: c :: d :: r).take 4 = [a, b, c, d] := fun _ => rfl
      rw [e4] at hq
      simp only [List.mem_cons, List.not_mem_nil, or_false] at hq
      rcases hq with rfl | rfl | rfl | rfl
      · exact hx h1
      · exact hx h2
      · exact hx h3
      · exact hx h4
    · cases h
  | [] => cases h
  | [_] => cases h
  | [_, _] => cases h
  | [_, _, _] => cases h
theorem take2 {l : Bs} {a b : UInt8} (h : l.take 2 = [a, b]) : l = a :: b :: l.drop 2 := by
  have := (List.take_append_drop 2 l).symm
  rw [h] at this
  exact this
theorem pt_good {l : Bs} {n : Nat} (h : ptL l = some n) : n < 65536 ∧ 6 ≤ l.length ∧ ∀ b ∈ l.take 6, b.toNat < 128 := by
  unfold ptL at h
  split at h
  · rename_i h2
    obtain ⟨h3, h4⟩ := hex4_some h
    have h5 := take2 h2
    rw [List.length_drop] at h3
    refine ⟨(hex4_lt h).1, by omega, ?_⟩
    intro b hb
    rw [h5, show ∀ r : Bs, (92 :: 117 :: r).take 6 = 92 :: 117 :: r.take 4 from fun _ => rfl] at hb
    simp only [List.mem_cons] at hb
    rcases hb with rfl | rfl | hb
    · decide
    · decide
    · exact h4 b hb
  · cases h
/-- an escape as both tell it -/
theorem esc_is (t : Bs) : ((escL t).2 = 0 ∧ (escR (92 :: t)).2 = 0) ∨ ((escL t).2 ≠ 0 ∧ (escR (92 :: t)).2 = 1 + (escL t).2 ∧ encU (escR (92 :: t)).1 = (escL t).1 ∧ (escR (92 :: t)).1 < 1114112 ∧ ((escR (92 :: t)).1 < 55296 ∨ 57343 < (escR (92 :: t)).1) ∧ (escL t).2 ≤ t.length ∧ ∀ b ∈ t.take (escL t).2, b.toNat < 128) := by
  match t with
  | [] => exact .inl ⟨rfl, rfl⟩
  | e :: r =>
    by_cases h117 : e = 117
    · subst h117
      have hC : escC 117 = none := by decide
      have hE : escR (92 :: 117 :: r) = ptR (92 :: 117 :: r) := if_pos rfl
      have hP : ptL (92 :: 117 :: r) = hex4 r := if_pos rfl
      have hD : (92 :: 117 :: r).drop 6 = r.drop 4 := rfl
      rw [hE]
      unfold ptR
      rw [hP, hD]
      simp only [escL, hC, if_true]
      cases h4 : hex4 r with
      | none => exact .inl ⟨rfl, rfl⟩
      | some n =>
        obtain ⟨g1, g2⟩ := hex4_some h4
        have g3 := (hex4_lt h4).1
        have ht5 : ∀ b ∈ (117 :: r).take 5, b.toNat < 128 := by
          intro b hb
          rw [show (117 :: r).take 5 = 117 :: r.take 4 from rfl, List.mem_cons] at hb
          rcases hb with rfl | hb
          · decide
          · exact g2 b hb
        simp only
        by_cases c1 : n < 55296 ∨ 57344 ≤ n
        · rw [if_pos c1, if_neg (by omega), if_pos (by omega)]
          exact .inr ⟨by simp, by simp, rfl, by simp only; omega, by simp only; omega, by simp only [List.length_cons]; omega, ht5⟩
        · rw [if_neg c1]
          by_cases c2 : 56320 ≤ n
          · rw [if_pos (by omega)]
            refine .inl ⟨rfl, ?_⟩
            cases ptL (r.drop 4) with
            | none => rfl
            | some m => simp only; rw [if_pos (.inl c2)]
          · rw [if_neg (by omega), if_neg (by omega)]
            unfold ptL
            by_cases c3 : (r.drop 4).take 2 = [92, 117]
            · rw [if_pos c3, if_pos c3, List.drop_drop]
              cases h6 : hex4 (r.drop 6) with
              | none => exact .inl ⟨rfl, rfl⟩
              | some m =>
                simp only
                by_cases c4 : 56320 ≤ m ∧ m ≤ 57343
                · rw [if_pos c4, if_neg (by omega)]
                  obtain ⟨k1, k2⟩ := hex4_some h6
                  rw [List.length_drop] at k1
                  have k4 := take2 c3
                  refine .inr ⟨by simp, by simp, ?_, by simp only; omega, by simp only; omega, by simp only [List.length_cons]; omega, ?_⟩
                  · rw [show 65536 + (n - 55296) * 1024 + m - 56320 = 65536 + (n - 55296) * 1024 + (m - 56320) by omega]
                  · intro b hb
                    have hr : r = r.take 4 ++ r.drop 4 := (List.take_append_drop 4 r).symm
                    have h11 : (117 :: r).take 11 = 117 :: (r.take 4 ++ (92 :: 117 :: (r.drop 6).take 4)) := by
                      show 117 :: r.take 10 = _
                      congr 1
                      have hq : r.take 10 = (r.take 4 ++ (92 :: 117 :: r.drop 6)).take 10 := by
                        conv => lhs; rw [hr, k4, List.drop_drop]
                      rw [hq, List.take_append]
                      have hl4 : (r.take 4).length = 4 := by rw [List.length_take]; omega
                      rw [hl4, List.take_of_length_le (by omega)]
                      rfl
                    simp only at hb
                    rw [h11, List.mem_cons, List.mem_append, List.mem_cons, List.mem_cons] at hb
                    rcases hb with rfl | hb | rfl | rfl | hb
                    · decide
                    · exact g2 b hb
                    · decide
                    · decide
                    · exact k2 b hb
                · rw [if_neg c4, if_pos (by omega)]
                  exact .inl ⟨rfl, rfl⟩
            · rw [if_neg c3, if_neg c3]
              exact .inl ⟨rfl, rfl⟩
    · have hE : escR (92 :: e :: r) = match escC e with | some c => (c.toNat, 2) | none => (0, 0) := by
        unfold escR
        rw [if_neg (by
          rw [show (92 :: e :: r).take 2 = [92, e] from rfl]
          intro h
          exact h117 (List.cons.inj (List.cons.inj h).2).1)]
      rw [hE]
      cases hC : escC e with
      | none =>
        simp only [escL, hC, if_neg h117]
        exact .inl ⟨trivial, trivial⟩
      | some c =>
        simp only [escL, hC]
        have hlt := escC_lt hC
        have he : e.toNat < 128 := by
          unfold escC at hC
          repeat' split at hC
          all_goals first | (rename_i h; subst h; decide) | cases hC
        refine .inr ⟨by simp, trivial, ?_, by omega, by omega, by simp, ?_⟩
        · unfold encU
          rw [if_pos hlt, u8_eq rfl]
        · intro b hb
          simp only [List.take_succ_cons, List.take_zero, List.mem_cons, List.not_mem_nil, or_false] at hb
          rw [hb]
          exact he
theorem read_esc (t : Bs) : readR (92 :: t) = escR (92 :: t) := if_pos rfl
theorem read_plain {a : UInt8} {t : Bs} (h : a ≠ 92) : readR (a :: t) = if wid (a :: t) = 0 ∨ a.toNat < 32 then (0, 0) else ((decR (a :: t)).1, wid (a :: t)) := by
  unfold readR
  rw [if_neg (by
    rw [show (a :: t).take 1 = [a] from rfl]
    intro e
    exact h (List.cons.inj e).1)]
  by_cases h1 : wid (a :: t) = 0 ∨ a.toNat < 32
  · rw [if_pos h1, if_pos]
    rcases h1 with h1 | h1
    · exact .inl h1
    · exact .inr ((dec_lt (by omega)).2 h1)
  · rw [if_neg h1, if_neg]
    rintro (h2 | h2)
    · exact h1 (.inl h2)
    · exact h1 (.inr ((dec_lt (by omega)).1 h2))

/-- where Unquote stands: out was read, up to the place N -/
def US (s : Bs) (N : Nat) (out : Bs) : Prop := N ≤ s.length ∧ out.length ≤ 4 * N ∧ ∃ f, s.length - N ≤ f ∧ unqF f out N (s.drop N) = unqL s
theorem us_start {t : Bs} : US (34 :: t) 1 [] := ⟨by simp, by simp, t.length, by simp, by rw [unqL, if_pos rfl]; rfl⟩
theorem us_none {s : Bs} (h : ¬ ∃ t, s = 34 :: t) : unqL s = ([], 0, 30) := by
  match s with
  | [] => rfl
  | c :: t =>
    rw [unqL, if_neg]
    rintro rfl
    exact h ⟨t, rfl⟩
theorem us_end {s out : Bs} (h : US s s.length out) : unqL s = ([], s.length, 30) := by
  obtain ⟨_, _, f, _, h2⟩ := h
  rw [← h2, List.drop_length]
  cases f <;> rfl
theorem us_fuel {s out : Bs} {N : Nat} {a : UInt8} {t : Bs} (h : US s N out) (hd : s.drop N = a :: t) : ∃ g, s.length - (N + 1) ≤ g ∧ unqF (g + 1) out N (a :: t) = unqL s ∧ t.length + N + 1 = s.length := by
  obtain ⟨h1, _, f, h3, h4⟩ := h
  have hl := congrArg List.length hd
  rw [List.length_drop, List.length_cons] at hl
  exact ⟨f - 1, by omega, by rw [show f - 1 + 1 = f by omega, ← hd]; exact h4, by omega⟩
theorem us_quote {s out : Bs} {N : Nat} {t : Bs} (h : US s N out) (hd : s.drop N = 34 :: t) : unqL s = (out, N + 1, 0) := by
  obtain ⟨g, _, h2, _⟩ := us_fuel h hd
  rw [← h2, unqF, if_pos rfl]
theorem us_bad {s out : Bs} {N : Nat} {a : UInt8} {t : Bs} (h : US s N out) (hd : s.drop N = a :: t) (h34 : a ≠ 34) (h0 : (readR (a :: t)).2 = 0) : unqL s = ([], N, 30) := by
  obtain ⟨g, _, h2, _⟩ := us_fuel h hd
  rw [← h2, unqF, if_neg h34]
  by_cases h92 : a = 92
  · subst h92
    rw [read_esc] at h0
    rw [if_pos rfl]
    rcases esc_is t with ⟨k1, _⟩ | ⟨_, k2, _⟩
    · rw [if_pos k1]
    · omega
  · rw [read_plain h92] at h0
    rw [if_neg h92]
    by_cases h1 : wid (a :: t) = 0 ∨ a.toNat < 32
    · rw [if_pos h1]
    · rw [if_neg h1] at h0
      exact absurd (.inl h0) h1
theorem mem_drop {l : Bs} {k n : Nat} (hk : k < n) (hn : n ≤ l.length) (h : ∀ b ∈ l.take n, b.toNat < 128) : ∃ a t, l.drop k = a :: t ∧ a.toNat < 128 := by
  have hkl : k < l.length := by omega
  refine ⟨l[k], l.drop (k + 1), List.drop_eq_getElem_cons hkl, h _ ?_⟩
  rw [List.mem_take_iff_getElem]
  exact ⟨k, by omega, rfl⟩
/-- what the step tells: where it goes on, and that what is passed over is of one byte each -/
def UGo (s out : Bs) (N n r w : Nat) : Prop := US s (N + n) (out ++ encU r) ∧ w ≤ n ∧ r < 1114112 ∧ (r < 55296 ∨ 57343 < r) ∧ ∀ p, N + w ≤ p → p < N + n → ∃ a t, s.drop p = a :: t ∧ a.toNat < 128
theorem us_go {s out : Bs} {N : Nat} {a : UInt8} {t : Bs} (h : US s N out) (hd : s.drop N = a :: t) (h34 : a ≠ 34) (h0 : (readR (a :: t)).2 ≠ 0) : UGo s out N (readR (a :: t)).2 (readR (a :: t)).1 (decR (a :: t)).2 := by
  obtain ⟨g, hg, h2, hl⟩ := us_fuel h hd
  have hout := h.2.1
  rw [unqF, if_neg h34] at h2
  by_cases h92 : a = 92
  · subst h92
    rw [read_esc] at h0 ⊢
    rw [if_pos rfl] at h2
    rcases esc_is t with ⟨_, k1⟩ | ⟨k1, k2, k3, k4, k5, k6, k7⟩
    · exact absurd k1 h0
    · rw [if_neg k1] at h2
      have he := enc_char k4 k5
      have hw : (decR (92 :: t)).2 = 1 := by rw [decR_1 (by decide)]
      have hdt : s.drop (N + 1) = t := by rw [← List.drop_drop, hd]; rfl
      refine ⟨⟨by omega, by rw [List.length_append]; omega, g, by omega, ?_⟩, by rw [hw]; omega, k4, k5, ?_⟩
      · rw [k3, k2, ← Nat.add_assoc, ← List.drop_drop, hdt]
        exact h2
      · intro p hp1 hp2
        rw [hw] at hp1
        have := mem_drop (l := t) (k := p - (N + 1)) (n := (escL t).2) (by omega) k6 k7
        rw [← hdt, List.drop_drop, show N + 1 + (p - (N + 1)) = p by omega] at this
        exact this
  · rw [read_plain h92] at h0 ⊢
    rw [if_neg h92] at h2
    by_cases h1 : wid (a :: t) = 0 ∨ a.toNat < 32
    · rw [if_pos h1] at h0
      exact absurd rfl h0
    · rw [if_neg h1] at h0 h2 ⊢
      have hw0 : wid (a :: t) ≠ 0 := h0
      obtain ⟨k1, k2⟩ := wid_split hw0
      obtain ⟨q1, q2, q3, _⟩ := enc_cp k1
      have e1 := dec_fst hw0
      have e2 := dec_snd hw0
      rw [List.length_cons] at k2
      have h4 := (enc_char q2 q3).2
      refine ⟨⟨by simp only; omega, ?_, g, by simp only; omega, ?_⟩, by simp only; omega, by simp only; rw [e1]; exact q2, by simp only; rw [e1]; exact q3, by simp only; intro p hp1 hp2; omega⟩
      · simp only
        rw [List.length_append, e1]
        omega
      · simp only
        rw [e1, q1, ← List.drop_drop, hd]
        exact h2

/-- what is written for a character below 32 by its number -/
theorem qb_ctl : ∀ a : Fin 32, a.1 ≠ 9 → a.1 ≠ 10 → a.1 ≠ 13 → qb (UInt8.ofNat a.1) = [92, 117] ++ List.replicate (4 - (dgs 16 a.1).length) 48 ++ dgs 16 a.1 ∧ (dgs 16 a.1).length ≤ 2 ∧ 1 ≤ (dgs 16 a.1).length := by
  intro a h9 h10 h13
  obtain ⟨n, hn⟩ := a
  simp only at h9 h10 h13 ⊢
  have hqb : qb (UInt8.ofNat n) = [92, 117, 48, 48, hexC (n / 16), hexC (n % 16)] := by
    have hv : (UInt8.ofNat n).toNat = n := nat8 (by omega)
    have hne : ∀ m : Nat, n ≠ m → m < 256 → UInt8.ofNat n ≠ UInt8.ofNat m := fun m hm hb e => hm (by
      have := congrArg UInt8.toNat e
      rw [nat8 (by omega), nat8 hb] at this
      exact this)
    unfold qb
    rw [if_neg (show ¬ UInt8.ofNat n = 34 from hne 34 (by omega) (by omega)), if_neg (show ¬ UInt8.ofNat n = 92 from hne 92 (by omega) (by omega)), if_neg (show ¬ UInt8.ofNat n = 10 from hne 10 h10 (by omega)), if_neg (show ¬ UInt8.ofNat n = 13 from hne 13 h13 (by omega)), if_neg (show ¬ UInt8.ofNat n = 9 from hne 9 h9 (by omega)), hv, if_pos hn]
  have hch : ∀ d : Fin 16, chN d.1 = hexC d.1 := by decide +kernel
  by_cases h16 : n < 16
  · rw [dgs_small h16, hqb, show n / 16 = 0 by omega, show n % 16 = n by omega, hch ⟨n, h16⟩]
    exact ⟨rfl, by simp, by simp⟩
  · rw [dgs_big (by omega) (by omega), dgs_small (show n / 16 < 16 by omega), hqb, hch ⟨n / 16, by omega⟩, hch ⟨n % 16, by omega⟩]
    exact ⟨rfl, by simp, by simp⟩
end Go.Proofs.YtnkhghjcfhpeiaaGreatDoor

/-
  JSON as lists alone: what is read is right (L5), and its text is at most three times as long.
-/
namespace Go.Proofs.YtnkhghjcfhpeiaaGreatDoor

theorem char_flat {ch : Bs} (h : charB ch = true) : (ch.flatMap qb).length ≤ 6 := by
  rcases char_cases h with ⟨a, rfl, ha⟩ | ⟨h1, a, t, rfl, ha⟩
  · have : (qb a).length ≤ 6 := by
      unfold qb
      repeat' split
      all_goals simp
    simpa using this
  · rw [h1]
    have h2 := (enc_char (n := cpL (a :: t)) (enc_cp h).2.1 (enc_cp h).2.2.1).2
    rw [(enc_cp h).1] at h2
    omega
theorem esc_flat (t : Bs) (h : (escL t).2 ≠ 0) : ((escL t).1.flatMap qb).length ≤ 6 := by
  rcases esc_is t with ⟨h1, _⟩ | ⟨_, _, h3, h4, h5, _⟩
  · exact absurd h1 h
  · rw [← h3]
    exact char_flat (enc_char h4 h5).1
theorem unqF_len : ∀ (f : Nat) (out : Bs) (i : Nat) (l : Bs), (out.flatMap qb).length + 3 ≤ 3 * i → (unqF f out i l).2.2 = 0 → ((unqF f out i l).1.flatMap qb).length + 2 ≤ 3 * (unqF f out i l).2.1 := by
  intro f
  induction f with
  | zero =>
    intro out i l _ h
    cases l <;> simp [unqF] at h
  | succ f ih =>
    intro out i l hi h
    match l with
    | [] => simp [unqF] at h
    | c :: t =>
      rw [unqF] at h ⊢
      split
      · simp only; omega
      · rename_i h34
        rw [if_neg h34] at h
        split
        · rename_i h92
          rw [if_pos h92] at h
          split
          · rename_i h0
            rw [if_pos h0] at h
            cases h
          · rename_i h0
            rw [if_neg h0] at h
            have := esc_flat t h0
            exact ih _ _ _ (by rw [List.flatMap_append, List.length_append]; omega) h
        · rename_i h92
          rw [if_neg h92] at h
          split
          · rename_i h0
            rw [if_pos h0] at h
            cases h
          · rename_i h0
            rw [if_neg h0] at h
            have hw : wid (c :: t) ≠ 0 := fun e => h0 (.inl e)
            have hc : ¬ c.toNat < 32 := fun e => h0 (.inr e)
            obtain ⟨k1, k2⟩ := wid_split hw
            have hfl : (((c :: t).take (wid (c :: t))).flatMap qb).length ≤ 3 * wid (c :: t) := by
              have hl : ((c :: t).take (wid (c :: t))).length = wid (c :: t) := by rw [List.length_take]; omega
              rcases char_cases k1 with ⟨a, ha, hb⟩ | ⟨h1, _⟩
              · rw [ha] at hl ⊢
                have hca : c = a := by
                  have e : (c :: t).take (wid (c :: t)) = [a] := ha
                  obtain ⟨n, hn⟩ : ∃ n, wid (c :: t) = n + 1 := ⟨wid (c :: t) - 1, by omega⟩
                  rw [hn, List.take_succ_cons] at e
                  exact (List.cons.inj e).1
                have hq : qb a = [a] := by
                  subst hca
                  unfold qb
                  rw [if_neg h34, if_neg h92, if_neg (by rintro rfl; exact hc (by decide)), if_neg (by rintro rfl; exact hc (by decide)), if_neg (by rintro rfl; exact hc (by decide)), if_neg hc]
                simp only [List.flatMap_cons, List.flatMap_nil, hq, List.append_nil, List.length_cons, List.length_nil] at hl ⊢
                omega
              · rw [h1, hl]; omega
            exact ih _ _ _ (by rw [List.flatMap_append, List.length_append]; omega) h
theorem unq_len {l : Bs} (h : (unqL l).2.2 = 0) : (quoteL (unqL l).1).length ≤ 3 * (unqL l).2.1 := by
  match l with
  | [] => simp [unqL] at h
  | c :: t =>
    rw [unqL] at h ⊢
    split
    · rename_i hc
      rw [if_pos hc] at h
      have := unqF_len t.length [] 1 t (by simp) h
      unfold quoteL
      simp only [List.length_cons, List.length_append, List.length_nil]
      omega
    · rename_i hc
      rw [if_neg hc] at h
      cases h
theorem textR_len {l s r : Bs} (h : textR l = .ok (s, r)) : (quoteL s).length ≤ 3 * (l.length - r.length) := by
  have h2 := (text_len h).2.1
  have h3 := unq_len (l := l) (by rw [h2])
  rw [h2] at h3
  exact h3
/-- a value that has no others in it, as it was read -/
def LeafOk (m m' : Nat) (l l' : Bs) (v : Jv) : Prop := (∀ d, rightF (d + 1) v = true) ∧ nodesJ v = 1 ∧ m' = m ∧ (textJ v).length ≤ 3 * (l.length - l'.length)
theorem word_ok {m m' : Nat} {l l' : Bs} {v : Jv} (h : wordR m l = .ok (v, m', l')) : LeafOk m m' l l' v := by
  unfold wordR at h
  have hp : ∀ p : Bs, p.isPrefixOf l = true → p.length ≤ l.length := fun p hp => by
    rw [List.isPrefixOf_iff_prefix] at hp
    exact hp.length_le
  split at h
  · rename_i h1
    have := hp _ h1
    simp only [List.length_cons, List.length_nil] at this
    cases h
    refine ⟨fun d => rfl, rfl, rfl, ?_⟩
    rw [List.length_drop, show (textJ (.mk 1 [] [] [])).length = 4 from rfl]
    omega
  · split at h
    · rename_i h1
      have := hp _ h1
      simp only [List.length_cons, List.length_nil] at this
      cases h
      refine ⟨fun d => rfl, rfl, rfl, ?_⟩
      rw [List.length_drop, show (textJ (.mk 2 [] [] [])).length = 5 from rfl]
      omega
    · split at h
      · rename_i h1
        have := hp _ h1
        simp only [List.length_cons, List.length_nil] at this
        cases h
        refine ⟨fun d => rfl, rfl, rfl, ?_⟩
        rw [List.length_drop, show (textJ (.mk 3 [] [] [])).length = 4 from rfl]
        omega
      · cases h
theorem leaf_ok {m m' : Nat} {l l' : Bs} {v : Jv} (h : leafR m l = .ok (v, m', l')) : LeafOk m m' l l' v := by
  unfold leafR at h
  split at h
  · cases h
  · rename_i c t
    split at h
    · split at h
      · cases h
      · rename_i s r ht
        cases h
        have h1 := (text_len ht).2.2.2.1
        refine ⟨fun d => ?_, rfl, rfl, ?_⟩
        · show (shapeJ 5 s [] [] && validL s) = true
          rw [h1]
          rfl
        · show ((quoteQ s).1).length ≤ _
          rw [quote_ok h1]
          exact textR_len ht
    · split at h
      · split at h
        · cases h
        · rename_i hn
          cases h
          have h1 := jn_take hn
          have h2 := jn_le (c :: t)
          have h3 : ((c :: t).take (numberL (c :: t))).length = numberL (c :: t) := by rw [List.length_take]; omega
          refine ⟨fun d => ?_, rfl, rfl, ?_⟩
          · show (shapeJ 4 ((c :: t).take (numberL (c :: t))) [] [] && numT ((c :: t).take (numberL (c :: t)))) = true
            have : numT ((c :: t).take (numberL (c :: t))) = true := by
              unfold numT
              rw [Bool.and_eq_true, decide_eq_true_eq, h1, h3, Bool.not_eq_true']
              refine ⟨?_, rfl⟩
              cases hh : (c :: t).take (numberL (c :: t)) with
              | nil => rw [hh] at h3; exact absurd h3.symm hn
              | cons a b => rfl
            rw [this]
            rfl
          · show ((c :: t).take (numberL (c :: t))).length ≤ _
            rw [List.length_drop]
            omega
      · exact word_ok h
/-- what was read, by what was to be read -/
def RunOk : Job → Nat → Bs → Jv → Nat → Bs → Prop
  | .val w, m, l, v, m', l' => rightF (16 - w) v = true ∧ m' = m + nodesJ v ∧ m' ≤ 500 ∧ (textJ v).length ≤ 3 * (l.length - l'.length)
  | .items w acc, m, l, v, m', l' => ∃ vs, v = .mk 6 [] [] (acc ++ vs) ∧ vs ≠ [] ∧ vs.all (rightF (15 - w)) = true ∧ m' = m + nodesL vs ∧ m' ≤ 500 ∧ (joinC (textsJ vs)).length + 1 ≤ 3 * (l.length - l'.length)
  | .mems w ks acc, m, l, v, m', l' => ∃ ks' vs, v = .mk 7 [] (ks ++ ks') (acc ++ vs) ∧ vs ≠ [] ∧ ks'.length = vs.length ∧ vs.all (rightF (15 - w)) = true ∧ ks'.all validL = true ∧ apartL ks' = true ∧ (∀ k ∈ ks', ks.contains k = false) ∧ m' = m + nodesL vs ∧ m' ≤ 500 ∧ (joinC (List.zipWith membC ks' (textsJ vs))).length + 1 ≤ 3 * (l.length - l'.length)
theorem run_ok : ∀ (f : Nat) (j : Job) (m : Nat) (l : Bs) (v : Jv) (m' : Nat) (l' : Bs), run f j m l = .ok (v, m', l') → RunOk j m l v m' l' := by
  intro f
  induction f with
  | zero => intro j m l v m' l' h; cases j <;> cases h
  | succ f ih =>
    intro j m l v m' l' h
    have hlen := run_len _ _ _ _ _ _ _ h
    rw [run_step] at h
    cases j with
    | val w =>
      unfold stepJ at h
      simp only at h
      simp only [RunOk]
      split at h
      · cases h
      · rename_i hw
        obtain ⟨d, hd, hd2⟩ : ∃ d, 16 - w = d + 1 ∧ d = 15 - w := ⟨15 - w, by omega, rfl⟩
        rw [hd]
        split at h
        · cases h
        · rename_i hm
          have hs := skip_le l
          split at h
          · cases h
          · rename_i c t hct
            rw [hct, List.length_cons] at hs
            have hs2 := skip_le t
            split at h
            · rename_i h91
              have key : ∀ q : Bs, q.length ≤ t.length → run f (.items w []) (m + 1) q = .ok (v, m', l') → rightF (d + 1) v = true ∧ m' = m + nodesJ v ∧ m' ≤ 500 ∧ (textJ v).length ≤ 3 * (l.length - l'.length) := by
                intro q hq h
                have hl2 := run_len _ _ _ _ _ _ _ h
                obtain ⟨vs, rfl, k1, k2, k3, k4, k5⟩ := ih _ _ _ _ _ _ h
                rw [List.nil_append] at *
                refine ⟨?_, by rw [nodesJ]; omega, k4, ?_⟩
                · show (shapeJ 6 [] [] vs && vs.all (rightF d)) = true
                  rw [hd2, k2]
                  rfl
                · show (91 :: (joinC (textsJ vs) ++ [93])).length ≤ _
                  simp only [List.length_cons, List.length_append, List.length_nil]
                  omega
              split at h
              · rename_i hr
                exact key _ (by simp) h
              · rename_i d2 r hr
                rw [hr] at hs2
                split at h
                · cases h
                  simp only [List.length_cons] at hs2
                  refine ⟨rfl, rfl, by omega, ?_⟩
                  rw [show (textJ (.mk 6 [] [] [])).length = 2 from rfl]
                  omega
                · exact key _ hs2 h
            · split at h
              · have key : ∀ q : Bs, q.length ≤ t.length → run f (.mems w [] []) (m + 1) q = .ok (v, m', l') → rightF (d + 1) v = true ∧ m' = m + nodesJ v ∧ m' ≤ 500 ∧ (textJ v).length ≤ 3 * (l.length - l'.length) := by
                  intro q hq h
                  have hl2 := run_len _ _ _ _ _ _ _ h
                  obtain ⟨ks, vs, rfl, k0, k1, k2, k3, k4, k5, k6, k7, k8⟩ := ih _ _ _ _ _ _ h
                  rw [List.nil_append, List.nil_append] at *
                  refine ⟨?_, by rw [nodesJ]; omega, k7, ?_⟩
                  · show (shapeJ 7 [] ks vs && (decide (ks.length = vs.length) && vs.all (rightF d) && ks.all validL && apartL ks)) = true
                    rw [hd2, k2, k3, k4, decide_eq_true k1]
                    rfl
                  · show (123 :: (joinC (List.zipWith membC ks (textsJ vs)) ++ [125])).length ≤ _
                    simp only [List.length_cons, List.length_append, List.length_nil]
                    omega
                split at h
                · rename_i hr
                  exact key _ (by simp) h
                · rename_i d2 r hr
                  rw [hr] at hs2
                  split at h
                  · cases h
                    simp only [List.length_cons] at hs2
                    refine ⟨rfl, rfl, by omega, ?_⟩
                    rw [show (textJ (.mk 7 [] [] [])).length = 2 from rfl]
                    omega
                  · exact key _ hs2 h
              · obtain ⟨k1, k2, k3, k4⟩ := leaf_ok h
                have hl2 := leaf_len h
                rw [List.length_cons] at hl2 k4
                exact ⟨k1 d, by omega, by omega, by omega⟩
    | items w acc =>
      unfold stepJ at h
      simp only at h
      simp only [RunOk]
      split at h
      · cases h
      · rename_i v1 m1 l1 h1
        have hl1 := run_len _ _ _ _ _ _ _ h1
        obtain ⟨q1, q2, q3, q4⟩ := ih _ _ _ _ _ _ h1
        rw [show 16 - (w + 1) = 15 - w by omega] at q1
        have hs := skip_le l1
        split at h
        · cases h
        · rename_i c r hr
          rw [hr, List.length_cons] at hs
          split at h
          · have hl2 := run_len _ _ _ _ _ _ _ h
            obtain ⟨vs, rfl, k1, k2, k3, k4, k5⟩ := ih _ _ _ _ _ _ h
            refine ⟨v1 :: vs, by rw [List.append_assoc]; rfl, by simp, by rw [List.all_cons, q1, k2]; rfl, by rw [nodesL]; omega, k4, ?_⟩
            show (textJ v1 ++ tailC (textsJ vs)).length + 1 ≤ _
            rw [tail_join _ (by cases vs with | nil => exact absurd rfl k1 | cons a b => simp [textsJ]), List.length_append, List.length_cons]
            omega
          · split at h
            · cases h
              refine ⟨[v1], rfl, by simp, by rw [List.all_cons, q1]; rfl, by rw [nodesL, nodesL]; omega, q3, ?_⟩
              show (textJ v1 ++ []).length + 1 ≤ _
              rw [List.append_nil]
              omega
            · cases h
    | mems w ks acc =>
      unfold stepJ at h
      simp only at h
      simp only [RunOk]
      split at h
      · cases h
      · rename_i k l2 ht
        have hs0 := skip_le l
        obtain ⟨t1, _, _, t4, _⟩ := text_len ht
        have t5 := textR_len ht
        split at h
        · cases h
        · rename_i hk
          have hk2 : ks.contains k = false := by simpa using hk
          have hs2 := skip_le l2
          split at h
          · cases h
          · rename_i c l3 hl3
            rw [hl3, List.length_cons] at hs2
            split at h
            · cases h
            · split at h
              · cases h
              · rename_i v1 m1 l1 h1
                have hl1 := run_len _ _ _ _ _ _ _ h1
                obtain ⟨q1, q2, q3, q4⟩ := ih _ _ _ _ _ _ h1
                rw [show 16 - (w + 1) = 15 - w by omega] at q1
                have hs := skip_le l1
                split at h
                · cases h
                · rename_i d r hr
                  rw [hr, List.length_cons] at hs
                  split at h
                  · have hl2 := run_len _ _ _ _ _ _ _ h
                    obtain ⟨ks', vs, rfl, k0, k1, k2, k3, k4, k5, k6, k7, k8⟩ := ih _ _ _ _ _ _ h
                    refine ⟨k :: ks', v1 :: vs, by rw [List.append_assoc, List.append_assoc]; rfl, by simp, by simp [k1], by rw [List.all_cons, q1, k2]; rfl, by rw [List.all_cons, t4, k3]; rfl, ?_, ?_, by rw [nodesL]; omega, k7, ?_⟩
                    · rw [apartL, k4, Bool.and_true, Bool.not_eq_true']
                      cases hh : ks'.contains k with
                      | false => rfl
                      | true =>
                        have := k5 k (by simpa using hh)
                        simp at this
                    · intro x hx
                      rw [List.mem_cons] at hx
                      rcases hx with rfl | hx
                      · exact hk2
                      · have := k5 x hx
                        simp at this ⊢
                        exact this.1
                    · show ((quoteQ k).1 ++ 58 :: textJ v1 ++ tailC (List.zipWith membC ks' (textsJ vs))).length + 1 ≤ _
                      rw [quote_ok t4, tail_join _ (by
                        cases vs with
                        | nil => exact absurd rfl k0
                        | cons a b => cases ks' with
                          | nil => cases k1
                          | cons x y => simp [textsJ])]
                      simp only [List.length_append, List.length_cons]
                      omega
                  · split at h
                    · cases h
                      refine ⟨[k], [v1], rfl, by simp, rfl, by rw [List.all_cons, q1]; rfl, by rw [List.all_cons, t4]; rfl, rfl, ?_, by rw [nodesL, nodesL]; omega, q3, ?_⟩
                      · intro x hx
                        rw [List.mem_singleton] at hx
                        rw [hx]
                        exact hk2
                      · show ((quoteQ k).1 ++ 58 :: textJ v1 ++ []).length + 1 ≤ _
                        rw [quote_ok t4]
                        simp only [List.length_append, List.length_cons, List.length_nil]
                        omega
                    · cases h
theorem leaf_err0 {m : Nat} {l : Bs} {e : Int} {r : Bs} (h : leafR m l = .error (e, r)) : e ≠ 0 := by
  unfold leafR at h
  split at h
  · cases h; decide
  · rename_i c t
    split at h
    · split at h
      · rename_i x hx
        injection h with h
        subst h
        unfold textR at hx
        split at hx
        · split at hx
          · cases hx
          · rename_i h2
            injection hx with hx
            rw [← (Prod.mk.inj hx).1]
            exact h2
        · cases hx; decide
      · cases h
    · split at h
      · split at h
        · cases h; decide
        · cases h
      · unfold wordR at h
        repeat' split at h
        all_goals first | cases h | skip
        all_goals decide
end Go.Proofs.YtnkhghjcfhpeiaaGreatDoor

/-
  JSON as lists alone: what Parse tells is right, and printed and parsed again it is the same (L5).
-/
namespace Go.Proofs.YtnkhghjcfhpeiaaGreatDoor

theorem run_err0 : ∀ (f : Nat) (j : Job) (m : Nat) (l : Bs) (e : Int) (r : Bs), run f j m l = .error (e, r) → e ≠ 0 := by
  intro f
  induction f with
  | zero => intro j m l e r h; cases j <;> (cases h; decide)
  | succ f ih =>
    intro j m l e r h
    rw [run_step] at h
    cases j with
    | val w =>
      unfold stepJ at h
      simp only at h
      split at h
      · cases h; decide
      · split at h
        · cases h; decide
        · split at h
          · cases h; decide
          · split at h
            · split at h
              · exact ih _ _ _ _ _ h
              · split at h
                · cases h
                · exact ih _ _ _ _ _ h
            · split at h
              · split at h
                · exact ih _ _ _ _ _ h
                · split at h
                  · cases h
                  · exact ih _ _ _ _ _ h
              · exact leaf_err0 h
    | items w acc =>
      unfold stepJ at h
      simp only at h
      split at h
      · rename_i x hx
        injection h with h
        subst h
        exact ih _ _ _ _ _ hx
      · split at h
        · cases h; decide
        · split at h
          · exact ih _ _ _ _ _ h
          · split at h
            · cases h
            · cases h; decide
    | mems w ks acc =>
      unfold stepJ at h
      simp only at h
      split at h
      · rename_i x hx
        injection h with h
        subst h
        unfold textR at hx
        split at hx
        · split at hx
          · cases hx
          · rename_i h2
            injection hx with hx
            rw [← (Prod.mk.inj hx).1]
            exact h2
        · cases hx; decide
      · split at h
        · cases h; decide
        · split at h
          · cases h; decide
          · split at h
            · cases h; decide
            · split at h
              · rename_i x hx
                injection h with h
                subst h
                exact ih _ _ _ _ _ hx
              · split at h
                · cases h; decide
                · split at h
                  · exact ih _ _ _ _ _ h
                  · split at h
                    · cases h
                    · cases h; decide
theorem jparse_cases (s : Bs) : ((parseJ s).2.1 = 0 ∧ rightJ (parseJ s).1 = true ∧ (parseJ s).2.2 = 0 ∧ (textJ (parseJ s).1).length ≤ 3 * s.length) ∨ ((parseJ s).2.1 ≠ 0 ∧ (parseJ s).1 = Jv.zero ∧ (parseJ s).2.2 ≤ s.length) := by
  unfold parseJ
  split
  · exact .inr ⟨by decide, rfl, Nat.zero_le _⟩
  · split
    · rename_i e l h
      exact .inr ⟨run_err0 _ _ _ _ _ _ h, rfl, Nat.sub_le _ _⟩
    · rename_i v m l h
      split
      · obtain ⟨k1, k2, k3, k4⟩ := run_ok _ _ _ _ _ _ _ h
        refine .inl ⟨rfl, ?_, rfl, ?_⟩
        · simp only
          unfold rightJ
          rw [Bool.and_eq_true, decide_eq_true_eq]
          exact ⟨by omega, k1⟩
        · simp only
          omega
      · exact .inr ⟨by simp, rfl, Nat.sub_le _ _⟩
theorem jparse_again {s : Bs} (h : (parseJ s).2.1 = 0) (hs : s.length ≤ 1333) : parseJ (textJ (parseJ s).1) = ((parseJ s).1, 0, 0) := by
  rcases jparse_cases s with ⟨_, h2, _, h4⟩ | ⟨h1, _⟩
  · exact jparse_print h2 (by omega)
  · exact absurd h h1
end Go.Proofs.YtnkhghjcfhpeiaaGreatDoor
