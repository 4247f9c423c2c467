/-
  The document's tail and Rune, walked: with how many bytes a text's first character is written.
-/
import Derived.Test.YtnkhghjcfhpeiaaGreatDoorQd
import Derived.Test.YtnkhghjcfhpeiaaGreatDoorJWords
import Derived.Deep.DeepCutAuto
import Derived.BigQuiet
namespace Go.Proofs.YtnkhghjcfhpeiaaGreatDoor
open Go.RowKit

theorem bidx {l : Bs} {a : UInt8} {i : Nat} (h : l[i]? = some a) (W : World) : (Instr.index 9 (.string (tb l)) (.int .i64 (i : Int))).run Tryz.prog W = .ok (.int .u8 (a.toNat : Int)) W := by
  obtain ⟨hi, h2⟩ := List.getElem?_eq_some_iff.1 h
  have h3 : (i : Int) < ((tb l).size : Int) := by rw [tb_size]; omega
  have h4 : (0 : Int) ≤ (i : Int) := by omega
  have h5 : i < (tb l).size := by rw [tb_size]; exact hi
  have h6 : (tb l)[i]'h5 = a := h2
  rw [run_index_string W 9 (tb l) .i64 _ Tryz.underlying9, dif_pos ⟨h4, h3⟩]
  simp only [Int.toNat_natCast, h6]
/-- is there a byte, one behind the first one of a character? -/
def tlB (s : Bs) (i : Nat) : Bool := match s[i]? with | some b => contB b | none => false
set_option maxRecDepth 100000 in
set_option maxHeartbeats 2000000 in
theorem rtail_any (s : Bs) (i : Nat) (w : World) : Calls Tryz.prog 98 #[.string (tb s), .int .i64 (i : Int)] w (fun e w' => e = .returned (.bool (tlB s i)) ∧ w' = w) := by
  have zs : (tb s).size = s.length := tb_size s
  unfold tlB
  cases hg : s[i]? with
  | none =>
    have hge := List.getElem?_eq_none_iff.1 hg
    have hl : ¬ (i : Int) < (s.length : Int) := by omega
    go_enter Tryz.func98, Tryz.ntmps98
    go_wp2
    go_ret
    exact ⟨rfl, rfl⟩
  | some b =>
    have hl : (i : Int) < (s.length : Int) := by have := (List.getElem?_eq_some_iff.1 hg).1; omega
    have hix := fun W => bidx hg W
    have hc : contB b = (decide (128 ≤ (b.toNat : Int)) && decide ((b.toNat : Int) ≤ 191)) := by
      unfold contB
      rw [Bool.eq_iff_iff]
      simp only [Bool.and_eq_true, decide_eq_true_eq]
      omega
    simp only
    obtain ⟨q, hq⟩ : ∃ q, contB b = q := ⟨_, rfl⟩
    rw [hc] at hq
    rw [show contB b = q from hc.trans hq]
    clear hc hg
    generalize (b.toNat : Int) = z at *
    by_cases h1 : 128 ≤ z
    · by_cases h2 : z ≤ 191
      · rw [decide_eq_true h1, decide_eq_true h2] at hq
        subst hq
        go_enter Tryz.func98, Tryz.ntmps98
        go_wp2
        go_ret
        exact ⟨rfl, rfl⟩
      · rw [decide_eq_true h1, decide_eq_false h2] at hq
        subst hq
        go_enter Tryz.func98, Tryz.ntmps98
        go_wp2
        go_ret
        exact ⟨rfl, rfl⟩
    · rw [decide_eq_false h1, Bool.false_and] at hq
      subst hq
      go_enter Tryz.func98, Tryz.ntmps98
      go_wp2
      go_ret
      exact ⟨rfl, rfl⟩
/-- the first character, and its bytes -/
def runeL (s : Bs) : Nat × Nat := if wid s = 0 then (0, 0) else (cpL (s.take (wid s)), wid s)
theorem rune_0 {a : UInt8} {t : Bs} (h : 128 ≤ a.toNat) (h2 : a.toNat < 194 ∨ 244 < a.toNat) : runeL (a :: t) = (0, 0) := by
  have hn : need a = 0 := by
    unfold need
    rcases h2 with h2 | h2
    · rw [if_neg (by omega), if_pos h2]
    · rw [if_neg (by omega), if_neg (by omega), if_neg (by omega), if_neg (by omega), if_neg (by omega)]
  have hw : wid (a :: t) = 0 := by rw [wid_eq, hn]; rfl
  unfold runeL
  rw [if_pos hw]
theorem rune_1 {a : UInt8} {t : Bs} (h : a.toNat < 128) : runeL (a :: t) = (a.toNat, 1) := by
  have hn : need a = 1 := by unfold need; rw [if_pos h]
  have hc : charB ((a :: t).take 1) = true := decide_eq_true h
  unfold runeL
  rw [wid_eq, hn, if_pos hc, if_neg (by decide)]
  rfl
theorem need2 {a : UInt8} (h : 194 ≤ a.toNat) (h2 : a.toNat ≤ 223) : need a = 2 := by unfold need; rw [if_neg (by omega), if_neg (by omega), if_pos (by omega)]
theorem need3 {a : UInt8} (h : 224 ≤ a.toNat) (h2 : a.toNat ≤ 239) : need a = 3 := by unfold need; rw [if_neg (by omega), if_neg (by omega), if_neg (by omega), if_pos (by omega)]
theorem need4 {a : UInt8} (h : 240 ≤ a.toNat) (h2 : a.toNat ≤ 244) : need a = 4 := by unfold need; rw [if_neg (by omega), if_neg (by omega), if_neg (by omega), if_neg (by omega), if_pos (by omega)]
theorem rune_no {a : UInt8} {t : Bs} (h : charB ((a :: t).take (need a)) = false) : runeL (a :: t) = (0, 0) := by
  have hw : wid (a :: t) = 0 := by rw [wid_eq, h]; rfl
  unfold runeL
  rw [if_pos hw]
theorem rune_yes {a : UInt8} {t : Bs} {n : Nat} (hn : need a = n) (h0 : n ≠ 0) (h : charB ((a :: t).take n) = true) : runeL (a :: t) = (cpL ((a :: t).take n), n) := by
  unfold runeL
  rw [wid_eq, hn, if_pos h, if_neg h0]
theorem tl_some {s : Bs} {i : Nat} (h : tlB s i = true) : ∃ b, s[i]? = some b ∧ contB b = true := by
  unfold tlB at h
  cases hs : s[i]? with
  | none => rw [hs] at h; cases h
  | some b => rw [hs] at h; exact ⟨b, rfl, h⟩
/-- two bytes -/
theorem rune_2 {a : UInt8} {t : Bs} (h : 194 ≤ a.toNat) (h2 : a.toNat ≤ 223) : (tlB (a :: t) 1 = false ∧ runeL (a :: t) = (0, 0)) ∨ (tlB (a :: t) 1 = true ∧ ∃ b, (a :: t)[1]? = some b ∧ runeL (a :: t) = (a.toNat % 32 * 64 + b.toNat % 64, 2)) := by
  have hn := need2 h h2
  match t with
  | [] => exact .inl ⟨rfl, rune_no (by rw [hn]; exact decide_eq_false (by omega))⟩
  | b :: t =>
    cases hc : contB b with
    | false => exact .inl ⟨hc, rune_no (by rw [hn]; show (_ && contB b) = false; rw [hc, Bool.and_false])⟩
    | true => exact .inr ⟨hc, b, rfl, rune_yes hn (by omega) (by show (decide (194 ≤ a.toNat) && decide (a.toNat < 224) && contB b) = true; rw [hc, decide_eq_true h, decide_eq_true (by omega)]; rfl)⟩
/-- three bytes -/
theorem rune_3 {a : UInt8} {t : Bs} (h : 224 ≤ a.toNat) (h2 : a.toNat ≤ 239) : ((tlB (a :: t) 1 = false ∨ (tlB (a :: t) 1 = true ∧ tlB (a :: t) 2 = false)) ∧ runeL (a :: t) = (0, 0)) ∨ (tlB (a :: t) 1 = true ∧ tlB (a :: t) 2 = true ∧ ∃ b c, (a :: t)[1]? = some b ∧ (a :: t)[2]? = some c ∧ runeL (a :: t) = if 2048 ≤ cp3 a b c ∧ (cp3 a b c < 55296 ∨ 57343 < cp3 a b c) then (cp3 a b c, 3) else (0, 0)) := by
  have hn := need3 h h2
  match t with
  | [] => exact .inl ⟨.inl rfl, rune_no (by rw [hn]; exact decide_eq_false (by omega))⟩
  | [b] =>
    refine .inl ⟨?_, rune_no (by rw [hn]; show (decide (194 ≤ a.toNat) && decide (a.toNat < 224) && contB b) = false; rw [decide_eq_false (p := a.toNat < 224) (by omega), Bool.and_false, Bool.false_and])⟩
    cases hc : contB b with
    | false => exact .inl hc
    | true => exact .inr ⟨hc, rfl⟩
  | b :: c :: t =>
    have e := charB3 a b c
    cases hb : contB b with
    | false => exact .inl ⟨.inl hb, rune_no (by rw [hn]; show charB [a, b, c] = false; rw [e, hb]; simp)⟩
    | true =>
      cases hc : contB c with
      | false => exact .inl ⟨.inr ⟨hb, hc⟩, rune_no (by rw [hn]; show charB [a, b, c] = false; rw [e, hc]; simp)⟩
      | true =>
        refine .inr ⟨hb, hc, b, c, rfl, rfl, ?_⟩
        rw [hb, hc, decide_eq_true h, decide_eq_true (p := a.toNat < 240) (by omega)] at e
        split
        · rename_i hq
          exact rune_yes hn (by omega) (by show charB [a, b, c] = true; rw [e, decide_eq_true hq.1]; simpa using hq.2)
        · rename_i hq
          refine rune_no (by rw [hn]; show charB [a, b, c] = false; rw [e]; simp only [Bool.true_and]; rw [← Bool.not_eq_true, Bool.and_eq_true, Bool.or_eq_true, decide_eq_true_eq, decide_eq_true_eq, decide_eq_true_eq]; exact hq)
/-- four bytes -/
theorem rune_4 {a : UInt8} {t : Bs} (h : 240 ≤ a.toNat) (h2 : a.toNat ≤ 244) : ((tlB (a :: t) 1 = false ∨ (tlB (a :: t) 1 = true ∧ tlB (a :: t) 2 = false) ∨ (tlB (a :: t) 1 = true ∧ tlB (a :: t) 2 = true ∧ tlB (a :: t) 3 = false)) ∧ runeL (a :: t) = (0, 0)) ∨ (tlB (a :: t) 1 = true ∧ tlB (a :: t) 2 = true ∧ tlB (a :: t) 3 = true ∧ ∃ b c d, (a :: t)[1]? = some b ∧ (a :: t)[2]? = some c ∧ (a :: t)[3]? = some d ∧ runeL (a :: t) = if 65536 ≤ cp4 a b c d ∧ cp4 a b c d ≤ 1114111 then (cp4 a b c d, 4) else (0, 0)) := by
  have hn := need4 h h2
  match t with
  | [] => exact .inl ⟨.inl rfl, rune_no (by rw [hn]; exact decide_eq_false (by omega))⟩
  | [b] =>
    refine .inl ⟨?_, rune_no (by rw [hn]; show (decide (194 ≤ a.toNat) && decide (a.toNat < 224) && contB b) = false; rw [decide_eq_false (p := a.toNat < 224) (by omega), Bool.and_false, Bool.false_and])⟩
    cases hc : contB b with
    | false => exact .inl hc
    | true => exact .inr (.inl ⟨hc, rfl⟩)
  | [b, c] =>
    refine .inl ⟨?_, rune_no (by rw [hn]; show charB [a, b, c] = false; rw [charB3, decide_eq_false (p := a.toNat < 240) (by omega)]; simp)⟩
    cases hb : contB b with
    | false => exact .inl hb
    | true =>
      cases hc : contB c with
      | false => exact .inr (.inl ⟨hb, hc⟩)
      | true => exact .inr (.inr ⟨hb, hc, rfl⟩)
  | b :: c :: d :: t =>
    have e := charB4 a b c d
    cases hb : contB b with
    | false => exact .inl ⟨.inl hb, rune_no (by rw [hn]; show charB [a, b, c, d] = false; rw [e, hb]; simp)⟩
    | true =>
      cases hc : contB c with
      | false => exact .inl ⟨.inr (.inl ⟨hb, hc⟩), rune_no (by rw [hn]; show charB [a, b, c, d] = false; rw [e, hc]; simp)⟩
      | true =>
        cases hd : contB d with
        | false => exact .inl ⟨.inr (.inr ⟨hb, hc, hd⟩), rune_no (by rw [hn]; show charB [a, b, c, d] = false; rw [e, hd]; simp)⟩
        | true =>
          refine .inr ⟨hb, hc, hd, b, c, d, rfl, rfl, rfl, ?_⟩
          rw [hb, hc, hd, decide_eq_true h, decide_eq_true (p := a.toNat < 245) (by omega)] at e
          split
          · rename_i hq
            exact rune_yes hn (by omega) (by show charB [a, b, c, d] = true; rw [e, decide_eq_true hq.1, decide_eq_true hq.2]; rfl)
          · rename_i hq
            refine rune_no (by rw [hn]; show charB [a, b, c, d] = false; rw [e]; simp only [Bool.true_and]; rw [← Bool.not_eq_true, Bool.and_eq_true, decide_eq_true_eq, decide_eq_true_eq]; exact hq)
end Go.Proofs.YtnkhghjcfhpeiaaGreatDoor

/-
  The document's Rune, walked.
-/
namespace Go.Proofs.YtnkhghjcfhpeiaaGreatDoor
open Go.RowKit

def RuneEnds (q : Nat × Nat) (w : World) (E : Ending) (w' : World) : Prop := E = .returned (.tuple #[.int .i64 (q.1 : Int), .int .i64 (q.2 : Int)]) ∧ Below w.heap.size w w'
theorem modn (x n r : Nat) (z : Int) (hz : z = (n : Int)) (h : x % n = r) (hn : 0 < n) (hx : x < 1000) : ((x : Int).tmod z = (r : Int)) ∧ ((x : Int) % z = (r : Int)) ∧ r < n ∧ r < 1000 := by
  subst hz
  refine ⟨?_, ?_, ?_, ?_⟩
  · rw [Int.tmod_eq_emod_of_nonneg (by omega), ← h]; simp
  · rw [← h]; simp
  · rw [← h]; exact Nat.mod_lt _ hn
  · rw [← h]; exact Nat.lt_of_le_of_lt (Nat.mod_le _ _) hx
theorem wrp (z : Int) (h : 0 ≤ z) (h2 : z ≤ 9223372036854775807) : IntKind.i64.wrap z = z := IntWalk.i64_in _ (by omega)
set_option maxRecDepth 100000 in
set_option maxHeartbeats 4000000 in
theorem rrune_any (s : Bs) (w : World) : Calls Tryz.prog 75 #[.string (tb s)] w (RuneEnds (runeL s) w) := by
  have T1 := Lib.hid (fun W => rtail_any s 1 W)
  have T2 := Lib.hid (fun W => rtail_any s 2 W)
  have T3 := Lib.hid (fun W => rtail_any s 3 W)
  match s with
  | [] =>
    have hem : (tb []).toList.isEmpty = true := by
      rw [isEmp, tb_size]
      exact decide_eq_true rfl
    go_enter Tryz.func75, Tryz.ntmps75
    go_wp2
    go_ret2
    exact ⟨rfl, Below.refl _ _⟩
  | a :: t =>
    have hne : (tb (a :: t)).toList.isEmpty = false := by
      rw [isEmp, tb_size]
      exact decide_eq_false (by simp)
    have hi0 : ∀ W, (Instr.index 9 (.string (tb (a :: t))) (.int .i64 0)).run Tryz.prog W = .ok (.int .u8 (a.toNat : Int)) W := fun W => bidx (l := a :: t) (i := 0) rfl W
    have ha := a.toNat_lt
    have e0 := @rune_0 a t
    have e1 := @rune_1 a t
    have e2 := @rune_2 a t
    have e3 := @rune_3 a t
    have e4 := @rune_4 a t
    obtain ⟨Q, hQ⟩ : ∃ Q, runeL (a :: t) = Q := ⟨_, rfl⟩
    obtain ⟨S, hS⟩ : ∃ S, a :: t = S := ⟨_, rfl⟩
    rw [hQ] at e0 e1 e2 e3 e4 ⊢
    rw [hS] at hne hi0 T1 T2 T3 e2 e3 e4 ⊢
    clear hQ
    replace hS := Lib.hid hS
    unfold cp3 at e3
    unfold cp4 at e4
    obtain ⟨x, hx⟩ : ∃ x, a.toNat = x := ⟨_, rfl⟩
    rw [hx] at e0 e1 e2 e3 e4 ha hi0
    clear hx
    have hxw : IntKind.i64.wrap (x : Int) = (x : Int) := wrp _ (by omega) (by omega)
    by_cases h1 : x < 128
    case pos =>
      have h1i : (x : Int) < 128 := by omega
      have := e1 h1
      subst this
      clear e0 e1 e2 e3 e4 T1 T2 T3 h1
      go_enter Tryz.func75, Tryz.ntmps75
      go_wp2
      go_ret2
      exact ⟨rfl, Below.refl _ _⟩
    case neg =>
    have h1i : ¬ (x : Int) < 128 := by omega
    by_cases h2 : x < 194 ∨ 244 < x
    case pos =>
      have := e0 (by omega) h2
      subst this
      clear e0 e1 e2 e3 e4 T1 T2 T3 h1
      rcases h2 with h2 | h2
      · have k1 : ¬ 194 ≤ (x : Int) := by omega
        have k2 : ¬ 224 ≤ (x : Int) := by omega
        have k3 : ¬ 240 ≤ (x : Int) := by omega
        clear h2
        generalize (x : Int) = z at *
        go_enter Tryz.func75, Tryz.ntmps75
        go_wp2
        go_ret2
        exact ⟨rfl, Below.refl _ _⟩
      · have k1 : 194 ≤ (x : Int) := by omega
        have k1b : ¬ (x : Int) ≤ 223 := by omega
        have k2 : 224 ≤ (x : Int) := by omega
        have k2b : ¬ (x : Int) ≤ 239 := by omega
        have k3 : 240 ≤ (x : Int) := by omega
        have k3b : ¬ (x : Int) ≤ 244 := by omega
        clear h2
        generalize (x : Int) = z at *
        go_enter Tryz.func75, Tryz.ntmps75
        go_wp2
        go_ret2
        exact ⟨rfl, Below.refl _ _⟩
    case neg =>
    clear e0 e1 h1
    by_cases h3 : x ≤ 223
    case pos =>
      have k1 : 194 ≤ (x : Int) := by omega
      have k1b : (x : Int) ≤ 223 := by omega
      have k2 : ¬ 224 ≤ (x : Int) := by omega
      have k3 : ¬ 240 ≤ (x : Int) := by omega
      have e := e2 (by omega) h3
      clear e2 e3 e4 h2 h3 T2 T3
      rcases e with ⟨t1, rfl⟩ | ⟨t1, b, hb, rfl⟩
      · rw [t1] at T1
        clear t1
        generalize (x : Int) = z at *
        go_enter Tryz.func75, Tryz.ntmps75
        go_wp2_with (first | (refine (T1.out _).mono ?_; rintro E w' ⟨rfl, rfl⟩) | fail)
        go_ret2
        exact ⟨rfl, Below.refl _ _⟩
      · rw [t1] at T1
        have hi1 : ∀ W, (Instr.index 9 (.string (tb S)) (.int .i64 1)).run Tryz.prog W = .ok (.int .u8 (b.toNat : Int)) W := fun W => bidx (i := 1) hb W
        have hb2 := b.toNat_lt
        clear t1 hb
        obtain ⟨y, hy⟩ : ∃ y, b.toNat = y := ⟨_, rfl⟩
        rw [hy] at hb2 hi1 ⊢
        clear hy
        obtain ⟨r1, hr1⟩ : ∃ r, x % 32 = r := ⟨_, rfl⟩
        obtain ⟨r2, hr2⟩ : ∃ r, y % 64 = r := ⟨_, rfl⟩
        obtain ⟨m1, m2, m3, m4⟩ := modn x 32 r1 32 rfl hr1 (by omega) (by omega)
        obtain ⟨n1, n2, n3, n4⟩ := modn y 64 r2 64 rfl hr2 (by omega) (by omega)
        rw [hr1, hr2]
        clear hr1 hr2
        have v1 : IntKind.i64.wrap (y : Int) = (y : Int) := wrp _ (by omega) (by omega)
        have v2 : IntKind.i64.wrap (r1 : Int) = (r1 : Int) := wrp _ (by omega) (by omega)
        have v3 : IntKind.i64.wrap (r2 : Int) = (r2 : Int) := wrp _ (by omega) (by omega)
        have v4 : IntKind.i64.wrap ((r1 : Int) * 64) = (r1 : Int) * 64 := wrp _ (by omega) (by omega)
        have v5 : IntKind.i64.wrap ((r1 : Int) * 64 + (r2 : Int)) = (r1 : Int) * 64 + (r2 : Int) := wrp _ (by omega) (by omega)
        go_enter Tryz.func75, Tryz.ntmps75
        go_wp2_with (first | (refine (T1.out _).mono ?_; rintro E w' ⟨rfl, rfl⟩) | fail)
        go_ret2
        exact ⟨by go_num, Below.refl _ _⟩
    case neg =>
    by_cases h4 : x ≤ 239
    case pos =>
      have k1 : 194 ≤ (x : Int) := by omega
      have k1b : ¬ (x : Int) ≤ 223 := by omega
      have k2 : 224 ≤ (x : Int) := by omega
      have k2b : (x : Int) ≤ 239 := by omega
      have k3 : ¬ 240 ≤ (x : Int) := by omega
      have e := e3 (by omega) h4
      clear e2 e3 e4 h2 h3 h4 T3
      rcases e with ⟨t1 | ⟨t1, t2⟩, rfl⟩ | ⟨t1, t2, b, c, hb, hc, he⟩
      · rw [t1] at T1
        clear t1 T2
        generalize (x : Int) = z at *
        go_enter Tryz.func75, Tryz.ntmps75
        go_wp2_with (first | (refine (T1.out _).mono ?_; rintro E w' ⟨rfl, rfl⟩) | fail)
        go_ret2
        exact ⟨rfl, Below.refl _ _⟩
      · rw [t1] at T1
        rw [t2] at T2
        clear t1 t2
        generalize (x : Int) = z at *
        go_enter Tryz.func75, Tryz.ntmps75
        go_wp2_with fail
        refine (T1.out _).mono ?_
        rintro E w' ⟨rfl, rfl⟩
        go_wp2_with fail
        refine (T2.out _).mono ?_
        rintro E w' ⟨rfl, rfl⟩
        go_wp2
        go_ret2
        exact ⟨rfl, Below.refl _ _⟩
      · rw [t1] at T1
        rw [t2] at T2
        have hi1 : ∀ W, (Instr.index 9 (.string (tb S)) (.int .i64 1)).run Tryz.prog W = .ok (.int .u8 (b.toNat : Int)) W := fun W => bidx (i := 1) hb W
        have hi2 : ∀ W, (Instr.index 9 (.string (tb S)) (.int .i64 2)).run Tryz.prog W = .ok (.int .u8 (c.toNat : Int)) W := fun W => bidx (i := 2) hc W
        have hb2 := b.toNat_lt
        have hc2 := c.toNat_lt
        clear t1 t2 hb hc
        obtain ⟨y, hy⟩ : ∃ y, b.toNat = y := ⟨_, rfl⟩
        obtain ⟨u, hu⟩ : ∃ y, c.toNat = y := ⟨_, rfl⟩
        rw [hy] at hb2 hi1 he
        rw [hu] at hc2 hi2 he
        clear hy hu
        obtain ⟨r1, hr1⟩ : ∃ r, x % 16 = r := ⟨_, rfl⟩
        obtain ⟨r2, hr2⟩ : ∃ r, y % 64 = r := ⟨_, rfl⟩
        obtain ⟨r3, hr3⟩ : ∃ r, u % 64 = r := ⟨_, rfl⟩
        obtain ⟨m1, m2, m3, m4⟩ := modn x 16 r1 16 rfl hr1 (by omega) (by omega)
        obtain ⟨n1, n2, n3, n4⟩ := modn y 64 r2 64 rfl hr2 (by omega) (by omega)
        obtain ⟨p1, p2, p3, p4⟩ := modn u 64 r3 64 rfl hr3 (by omega) (by omega)
        rw [hr1, hr2, hr3] at he
        clear hr1 hr2 hr3
        obtain ⟨N, hN⟩ : ∃ N, r1 * 4096 + r2 * 64 + r3 = N := ⟨_, rfl⟩
        rw [hN] at he
        have v1 : IntKind.i64.wrap (y : Int) = (y : Int) := wrp _ (by omega) (by omega)
        have v1u : IntKind.i64.wrap (u : Int) = (u : Int) := wrp _ (by omega) (by omega)
        have v2 : IntKind.i64.wrap (r1 : Int) = (r1 : Int) := wrp _ (by omega) (by omega)
        have v3 : IntKind.i64.wrap (r2 : Int) = (r2 : Int) := wrp _ (by omega) (by omega)
        have v3u : IntKind.i64.wrap (r3 : Int) = (r3 : Int) := wrp _ (by omega) (by omega)
        have v4 : IntKind.i64.wrap ((r1 : Int) * 4096) = (r1 : Int) * 4096 := wrp _ (by omega) (by omega)
        have v5 : IntKind.i64.wrap ((r2 : Int) * 64) = (r2 : Int) * 64 := wrp _ (by omega) (by omega)
        have v6 : IntKind.i64.wrap ((r1 : Int) * 4096 + (r2 : Int) * 64) = (r1 : Int) * 4096 + (r2 : Int) * 64 := wrp _ (by omega) (by omega)
        have v7 : IntKind.i64.wrap ((r1 : Int) * 4096 + (r2 : Int) * 64 + (r3 : Int)) = (N : Int) := by rw [wrp _ (by omega) (by omega)]; omega
        have hN2 : N < 65536 := by omega
        clear hN
        generalize (x : Int) = zx at *
        replace he := Lib.hid he
        go_enter Tryz.func75, Tryz.ntmps75
        go_wp2_with fail
        refine (T1.out _).mono ?_
        rintro E w' ⟨rfl, rfl⟩
        go_wp2_with fail
        refine (T2.out _).mono ?_
        rintro E w' ⟨rfl, rfl⟩
        clear T1 T2
        go_wp2_with fail
        go_quiet (fail)
        rename_i nq
        have hbl := below_drewN (Below.refl w'.heap.size w') nq
        generalize w'.drewN nq = W at *
        clear v1 v1u v2 v3 v3u v4 v5 v6 v7 m1 m2 n1 n2 p1 p2
        replace he := he.out
        split at he
        · rename_i hq
          subst he
          have q1 : 2048 ≤ (N : Int) := by omega
          rcases hq.2 with hq2 | hq2
          · have q2 : (N : Int) < 55296 := by omega
            clear hq hq2
            go_wp2
            go_ret2
            exact ⟨rfl, hbl⟩
          · have q2 : ¬ (N : Int) < 55296 := by omega
            have q3 : 57343 < (N : Int) := by omega
            clear hq hq2
            go_wp2
            go_ret2
            exact ⟨rfl, hbl⟩
        · rename_i hq
          subst he
          have hq2 : N < 2048 ∨ (2048 ≤ N ∧ 55296 ≤ N ∧ N ≤ 57343) := by omega
          clear hq
          rcases hq2 with hq2 | ⟨g1, g2, g3⟩
          · have q1 : ¬ 2048 ≤ (N : Int) := by omega
            clear hq2
            generalize (N : Int) = z at *
            go_wp2
            go_ret2
            exact ⟨rfl, hbl⟩
          · have q1 : 2048 ≤ (N : Int) := by omega
            have q2 : ¬ (N : Int) < 55296 := by omega
            have q3 : ¬ 57343 < (N : Int) := by omega
            clear g1 g2 g3
            generalize (N : Int) = z at *
            go_wp2
            go_ret2
            exact ⟨rfl, hbl⟩
    case neg =>
      have h5 : x ≤ 244 := by omega
      have k1 : 194 ≤ (x : Int) := by omega
      have k1b : ¬ (x : Int) ≤ 223 := by omega
      have k2 : 224 ≤ (x : Int) := by omega
      have k2b : ¬ (x : Int) ≤ 239 := by omega
      have k3 : 240 ≤ (x : Int) := by omega
      have k3b : (x : Int) ≤ 244 := by omega
      have e := e4 (by omega) h5
      clear e2 e3 e4 h2 h3 h4
      rcases e with ⟨t1 | ⟨t1, t2⟩ | ⟨t1, t2, t3⟩, rfl⟩ | ⟨t1, t2, t3, b, c, d, hb, hc, hd, he⟩
      · rw [t1] at T1
        clear t1 T2 T3 h5
        generalize (x : Int) = z at *
        go_enter Tryz.func75, Tryz.ntmps75
        go_wp2_with (first | (refine (T1.out _).mono ?_; rintro E w' ⟨rfl, rfl⟩) | fail)
        go_ret2
        exact ⟨rfl, Below.refl _ _⟩
      · rw [t1] at T1
        rw [t2] at T2
        clear t1 t2 T3 h5
        generalize (x : Int) = z at *
        go_enter Tryz.func75, Tryz.ntmps75
        go_wp2_with fail
        refine (T1.out _).mono ?_
        rintro E w' ⟨rfl, rfl⟩
        go_wp2_with fail
        refine (T2.out _).mono ?_
        rintro E w' ⟨rfl, rfl⟩
        go_wp2
        go_ret2
        exact ⟨rfl, Below.refl _ _⟩
      · rw [t1] at T1
        rw [t2] at T2
        rw [t3] at T3
        clear t1 t2 t3 h5
        generalize (x : Int) = z at *
        go_enter Tryz.func75, Tryz.ntmps75
        go_wp2_with fail
        refine (T1.out _).mono ?_
        rintro E w' ⟨rfl, rfl⟩
        go_wp2_with fail
        refine (T2.out _).mono ?_
        rintro E w' ⟨rfl, rfl⟩
        go_wp2_with fail
        refine (T3.out _).mono ?_
        rintro E w' ⟨rfl, rfl⟩
        go_wp2
        go_ret2
        exact ⟨rfl, Below.refl _ _⟩
      · rw [t1] at T1
        rw [t2] at T2
        rw [t3] at T3
        have hi1 : ∀ W, (Instr.index 9 (.string (tb S)) (.int .i64 1)).run Tryz.prog W = .ok (.int .u8 (b.toNat : Int)) W := fun W => bidx (i := 1) hb W
        have hi2 : ∀ W, (Instr.index 9 (.string (tb S)) (.int .i64 2)).run Tryz.prog W = .ok (.int .u8 (c.toNat : Int)) W := fun W => bidx (i := 2) hc W
        have hi3 : ∀ W, (Instr.index 9 (.string (tb S)) (.int .i64 3)).run Tryz.prog W = .ok (.int .u8 (d.toNat : Int)) W := fun W => bidx (i := 3) hd W
        have hb2 := b.toNat_lt
        have hc2 := c.toNat_lt
        have hd2 := d.toNat_lt
        clear t1 t2 t3 hb hc hd
        obtain ⟨y, hy⟩ : ∃ y, b.toNat = y := ⟨_, rfl⟩
        obtain ⟨u, hu⟩ : ∃ y, c.toNat = y := ⟨_, rfl⟩
        obtain ⟨o, ho⟩ : ∃ y, d.toNat = y := ⟨_, rfl⟩
        rw [hy] at hb2 hi1 he
        rw [hu] at hc2 hi2 he
        rw [ho] at hd2 hi3 he
        clear hy hu ho
        obtain ⟨r1, hr1⟩ : ∃ r, x % 8 = r := ⟨_, rfl⟩
        obtain ⟨r2, hr2⟩ : ∃ r, y % 64 = r := ⟨_, rfl⟩
        obtain ⟨r3, hr3⟩ : ∃ r, u % 64 = r := ⟨_, rfl⟩
        obtain ⟨r4, hr4⟩ : ∃ r, o % 64 = r := ⟨_, rfl⟩
        obtain ⟨m1, m2, m3, m4⟩ := modn x 8 r1 8 rfl hr1 (by omega) (by omega)
        obtain ⟨n1, n2, n3, n4⟩ := modn y 64 r2 64 rfl hr2 (by omega) (by omega)
        obtain ⟨p1, p2, p3, p4⟩ := modn u 64 r3 64 rfl hr3 (by omega) (by omega)
        obtain ⟨s1, s2, s3, s4⟩ := modn o 64 r4 64 rfl hr4 (by omega) (by omega)
        rw [hr1, hr2, hr3, hr4] at he
        clear hr1 hr2 hr3 hr4
        obtain ⟨N, hN⟩ : ∃ N, r1 * 262144 + r2 * 4096 + r3 * 64 + r4 = N := ⟨_, rfl⟩
        rw [hN] at he
        have v1 : IntKind.i64.wrap (y : Int) = (y : Int) := wrp _ (by omega) (by omega)
        have v1u : IntKind.i64.wrap (u : Int) = (u : Int) := wrp _ (by omega) (by omega)
        have v1o : IntKind.i64.wrap (o : Int) = (o : Int) := wrp _ (by omega) (by omega)
        have v2 : IntKind.i64.wrap (r1 : Int) = (r1 : Int) := wrp _ (by omega) (by omega)
        have v3 : IntKind.i64.wrap (r2 : Int) = (r2 : Int) := wrp _ (by omega) (by omega)
        have v3u : IntKind.i64.wrap (r3 : Int) = (r3 : Int) := wrp _ (by omega) (by omega)
        have v3o : IntKind.i64.wrap (r4 : Int) = (r4 : Int) := wrp _ (by omega) (by omega)
        have v4 : IntKind.i64.wrap ((r1 : Int) * 262144) = (r1 : Int) * 262144 := wrp _ (by omega) (by omega)
        have v5 : IntKind.i64.wrap ((r2 : Int) * 4096) = (r2 : Int) * 4096 := wrp _ (by omega) (by omega)
        have v5b : IntKind.i64.wrap ((r3 : Int) * 64) = (r3 : Int) * 64 := wrp _ (by omega) (by omega)
        have v6 : IntKind.i64.wrap ((r1 : Int) * 262144 + (r2 : Int) * 4096) = (r1 : Int) * 262144 + (r2 : Int) * 4096 := wrp _ (by omega) (by omega)
        have v6b : IntKind.i64.wrap ((r1 : Int) * 262144 + (r2 : Int) * 4096 + (r3 : Int) * 64) = (r1 : Int) * 262144 + (r2 : Int) * 4096 + (r3 : Int) * 64 := wrp _ (by omega) (by omega)
        have v7 : IntKind.i64.wrap ((r1 : Int) * 262144 + (r2 : Int) * 4096 + (r3 : Int) * 64 + (r4 : Int)) = (N : Int) := by rw [wrp _ (by omega) (by omega)]; omega
        clear hN h5
        generalize (x : Int) = zx at *
        replace he := Lib.hid he
        go_enter Tryz.func75, Tryz.ntmps75
        go_wp2_with fail
        refine (T1.out _).mono ?_
        rintro E w' ⟨rfl, rfl⟩
        go_wp2_with fail
        refine (T2.out _).mono ?_
        rintro E w' ⟨rfl, rfl⟩
        go_wp2_with fail
        refine (T3.out _).mono ?_
        rintro E w' ⟨rfl, rfl⟩
        clear T1 T2 T3
        go_wp2_with fail
        go_quiet (fail)
        rename_i nq
        have hbl := below_drewN (Below.refl w'.heap.size w') nq
        generalize w'.drewN nq = W at *
        clear v1 v1u v1o v2 v3 v3u v3o v4 v5 v5b v6 v6b v7 m1 m2 n1 n2 p1 p2 s1 s2
        replace he := he.out
        split at he
        · rename_i hq
          subst he
          have q1 : 65536 ≤ (N : Int) := by omega
          have q2 : (N : Int) ≤ 1114111 := by omega
          clear hq
          go_wp2
          go_ret2
          exact ⟨rfl, hbl⟩
        · rename_i hq
          subst he
          have hq2 : N < 65536 ∨ (65536 ≤ N ∧ 1114111 < N) := by omega
          clear hq
          rcases hq2 with hq2 | ⟨g1, g2⟩
          · have q1 : ¬ 65536 ≤ (N : Int) := by omega
            clear hq2
            generalize (N : Int) = z at *
            go_wp2
            go_ret2
            exact ⟨rfl, hbl⟩
          · have q1 : 65536 ≤ (N : Int) := by omega
            have q2 : ¬ (N : Int) ≤ 1114111 := by omega
            clear g1 g2
            generalize (N : Int) = z at *
            go_wp2
            go_ret2
            exact ⟨rfl, hbl⟩
end Go.Proofs.YtnkhghjcfhpeiaaGreatDoor
