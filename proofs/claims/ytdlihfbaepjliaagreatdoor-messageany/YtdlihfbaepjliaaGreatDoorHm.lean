/-
  Lists alone: heads, their texts, and how a text is parsed.
-/
import Derived.Test.YtdlihfbaepjliaaGreatDoorFm
import Derived.Test.YtdlihfbaepjliaaGreatDoorNum
import Derived.Lib.SlTrimSet
import Derived.WalkKit
import Derived.Lib.Split
namespace Go.Proofs.YtdlihfbaepjliaaGreatDoor

def tgtC (c : UInt8) : Bool := decide (33 ≤ c.toNat ∧ c.toNat ≤ 126)
def targetB (l : Bs) : Bool := decide (1 ≤ l.length) && decide (l.length ≤ 200) && l.all tgtC
def reasonB (l : Bs) : Bool := decide (l.length ≤ 200) && l.all valC
/-- a head -/
structure Hd where
  m : Bs
  t : Bs
  st : Int
  r : Bs
  mi : Int
  fs : List (Bs × Bs)
def Hd.zero : Hd := ⟨[], [], 0, [], 0, []⟩
def fieldB (f : Bs × Bs) : Bool := nameB f.1 && valueB f.2
def fieldsB (fs : List (Bs × Bs)) : Bool := decide (fs.length ≤ 20) && fs.all fieldB
def statB (n : Int) : Bool := decide (100 ≤ n) && decide (n ≤ 599)
def kindB (h : Hd) (a : Bool) : Bool :=
  if a = true then statB h.st && reasonB h.r && h.m.isEmpty && h.t.isEmpty else nameB h.m && targetB h.t && decide (h.st = 0) && h.r.isEmpty
def rightB (h : Hd) (a : Bool) : Bool := (decide (h.mi = 0) || decide (h.mi = 1)) && fieldsB h.fs && kindB h a
def crlf : Bs := [13, 10]
def verT (mi : Int) : Bs := [72, 84, 84, 80, 47, 49, 46] ++ textN mi 10
def firstT (h : Hd) (a : Bool) : Bs := if a = true then verT h.mi ++ [32] ++ textN h.st 10 ++ [32] ++ h.r else h.m ++ [32] ++ h.t ++ [32] ++ verT h.mi
def fieldT (f : Bs × Bs) : Bs := f.1 ++ [58, 32] ++ f.2 ++ crlf
def textH (h : Hd) (a : Bool) : Bs := firstT h a ++ crlf ++ h.fs.flatMap fieldT ++ crlf
def printH (h : Hd) (a : Bool) : Bs × Int := if rightB h a = true then (if (textH h a).length ≤ 2004 then (textH h a, 0) else ([], 2)) else ([], 1)

/-- the lines, parted by 13 and 10 -/
def linesA (acc : Bs) : Bs → List Bs
  | [] => [acc]
  | [x] => [acc ++ [x]]
  | x :: y :: r => if x = 13 ∧ y = 10 then acc :: linesA [] r else linesA (acc ++ [x]) (y :: r)
def linesL (l : Bs) : List Bs := linesA [] l
def digC (c : UInt8) : Bool := decide (48 ≤ c.toNat ∧ c.toNat ≤ 57)
def versL (l : Bs) : Int × Int :=
  if l.length = 8 ∧ l.take 5 = [72, 84, 84, 80, 47] ∧ digC (l.getD 5 0) = true ∧ l.getD 6 0 = 46 ∧ digC (l.getD 7 0) = true then
    (if l.getD 5 0 = 49 ∧ (l.getD 7 0).toNat ≤ 49 then (((l.getD 7 0).toNat : Int) - 48, 0) else (0, 24))
  else (0, 20)
/-- the three parts of a first line -/
def p1 (l : Bs) : Bs := befL 32 l
def p2 (l : Bs) : Bs := befL 32 (aftL 32 l)
def p3 (l : Bs) : Bs := aftL 32 (aftL 32 l)
def two (l : Bs) : Bool := l.contains 32 && (aftL 32 l).contains 32
def reqL (l : Bs) : Hd × Int :=
  if two l = true ∧ nameB (p1 l) = true ∧ targetB (p2 l) = true then
    (⟨p1 l, p2 l, 0, [], (versL (p3 l)).1, []⟩, (versL (p3 l)).2)
  else (Hd.zero, 20)
def ansL (l : Bs) : Hd × Int :=
  if two l = true ∧ (p2 l).length = 3 ∧ (p2 l).all digC = true ∧ reasonB (p3 l) = true then
    (if (versL (p1 l)).2 = 0 then
      (if statB (parseN (p2 l) 10).1 = true then (⟨[], [], (parseN (p2 l) 10).1, p3 l, (versL (p1 l)).1, []⟩, 0) else (Hd.zero, 20))
    else (Hd.zero, (versL (p1 l)).2))
  else (Hd.zero, 20)
def firstL (l : Bs) (a : Bool) : Hd × Int := if a = true then ansL l else reqL l
/-- the fields of the lines behind -/
def pfL (acc : List (Bs × Bs)) : List Bs → List (Bs × Bs) × Int
  | [] => (acc, 0)
  | l :: r => if acc.length = 20 then ([], 2) else if (parse3 l).2.2 = 0 then pfL (acc ++ [((parse3 l).1, (parse3 l).2.1)]) r else ([], (parse3 l).2.2)
/-- a head of its first line and the lines behind -/
def parseL (l : Bs) (r : List Bs) (a : Bool) : Hd × Int :=
  if (firstL l a).2 = 0 then
    (if (pfL [] r).2 = 0 then ({ (firstL l a).1 with fs := (pfL [] r).1 }, 0) else (Hd.zero, (pfL [] r).2))
  else (Hd.zero, (firstL l a).2)
def parseH (s : Bs) (a : Bool) : Hd × Int := if 2000 < s.length then (Hd.zero, 2) else parseL ((linesL s).headD []) (linesL s).tail a

/-! lines -/
theorem lines_ne (acc l : Bs) : linesA acc l ≠ [] := by
  induction acc, l using linesA.induct with
  | case1 acc => simp [linesA]
  | case2 acc x => simp [linesA]
  | case3 acc x y r h ih => simp [linesA, h]
  | case4 acc x y r h ih => rw [linesA, if_neg h]; exact ih
theorem lines_acc (acc l : Bs) : ∃ p ps, linesA [] l = p :: ps ∧ linesA acc l = (acc ++ p) :: ps := by
  have key : ∀ n, ∀ l : Bs, l.length ≤ n → ∀ acc, ∃ p ps, linesA [] l = p :: ps ∧ linesA acc l = (acc ++ p) :: ps := by
    intro n
    induction n with
    | zero =>
      intro l hl acc
      obtain rfl : l = [] := List.eq_nil_of_length_eq_zero (by omega)
      exact ⟨[], [], rfl, by simp [linesA]⟩
    | succ n ih =>
      intro l hl acc
      match l with
      | [] => exact ⟨[], [], rfl, by simp [linesA]⟩
      | [x] => exact ⟨[x], [], rfl, by simp [linesA]⟩
      | x :: y :: r =>
        by_cases h : x = 13 ∧ y = 10
        · exact ⟨[], linesA [] r, by rw [linesA, if_pos h], by rw [linesA, if_pos h, List.append_nil]⟩
        · obtain ⟨p, ps, h1, h2⟩ := ih (y :: r) (by simp at hl ⊢; omega) [x]
          obtain ⟨p', ps', h1', h2'⟩ := ih (y :: r) (by simp at hl ⊢; omega) (acc ++ [x])
          rw [h1] at h1'
          obtain ⟨rfl, rfl⟩ := List.cons.inj h1'
          refine ⟨x :: p, ps, ?_, ?_⟩
          · rw [linesA, if_neg h, List.nil_append, h2]; rfl
          · rw [linesA, if_neg h, h2']; simp
  exact key _ l (Nat.le_refl _) acc
theorem lines_skip (acc : Bs) (x : UInt8) (r : Bs) (h : x ≠ 13) : linesA acc (x :: r) = linesA (acc ++ [x]) r := by
  cases r with
  | nil => rfl
  | cons y r => rw [linesA, if_neg (fun e => h e.1)]
theorem lines_cut (acc a r : Bs) (h : ∀ c ∈ a, c ≠ 13) : linesA acc (a ++ 13 :: 10 :: r) = (acc ++ a) :: linesA [] r := by
  induction a generalizing acc with
  | nil => simp [linesA]
  | cons x a ih =>
    rw [List.cons_append, lines_skip _ _ _ (h x (by simp)), ih (acc ++ [x]) (fun c hc => h c (by simp [hc]))]
    simp
theorem lines_end (acc a : Bs) (h : ∀ c ∈ a, c ≠ 13) : linesA acc a = [acc ++ a] := by
  induction a generalizing acc with
  | nil => simp [linesA]
  | cons x a ih =>
    rw [lines_skip _ _ _ (h x (by simp)), ih (acc ++ [x]) (fun c hc => h c (by simp [hc]))]
    simp
/-- how long lines are -/
def total (ls : List Bs) : Nat := (ls.map fun l => l.length + 2).sum
theorem lines_total (acc l : Bs) : total (linesA acc l) = acc.length + l.length + 2 := by
  induction acc, l using linesA.induct with
  | case1 acc => simp [linesA, total]
  | case2 acc x => simp [linesA, total]
  | case3 acc x y r h ih =>
    rw [linesA, if_pos h]
    simp only [total, List.map_cons, List.sum_cons] at ih ⊢
    rw [ih]
    simp
    omega
  | case4 acc x y r h ih =>
    rw [linesA, if_neg h, ih]
    simp
    omega

/-! the library's split -/
theorem occ_cons (x y : UInt8) (r : Bs) : Lib.occAt (x :: y :: r) crlf 0 = decide (x = 13 ∧ y = 10) := by
  unfold Lib.occAt crlf
  rw [Bool.eq_iff_iff]
  simp [List.isPrefixOf]
  constructor
  · rintro ⟨h1, h2⟩; exact ⟨h1.symm, h2.symm⟩
  · rintro ⟨h1, h2⟩; exact ⟨h1.symm, h2.symm⟩
theorem index_lines : ∀ (n : Nat) (l acc : Bs), l.length ≤ n → (Lib.index l crlf = -1 → linesA acc l = [acc ++ l]) ∧ (∀ i : Nat, Lib.index l crlf = i → linesA acc l = (acc ++ l.take i) :: linesA [] (l.drop (i + 2)))
  | 0, l, acc, h => by
    obtain rfl : l = [] := List.eq_nil_of_length_eq_zero (by omega)
    refine ⟨fun _ => by simp [linesA], fun i hi => ?_⟩
    have : Lib.index [] crlf = -1 := by decide
    omega
  | n + 1, [], acc, h => by
    refine ⟨fun _ => by simp [linesA], fun i hi => ?_⟩
    have : Lib.index [] crlf = -1 := by decide
    omega
  | n + 1, [x], acc, h => by
    refine ⟨fun _ => by simp [linesA], fun i hi => ?_⟩
    have := Lib.index_room [x] crlf (by omega)
    have e1 : (crlf.length : Int) = 2 := rfl
    have e2 : (([x] : Bs).length : Int) = 1 := rfl
    omega
  | n + 1, x :: y :: r, acc, h => by
    by_cases hc : x = 13 ∧ y = 10
    · have ho : Lib.occAt (x :: y :: r) crlf 0 = true := by rw [occ_cons]; exact decide_eq_true hc
      have hi0 : Lib.index (x :: y :: r) crlf = (0 : Nat) := Lib.index_first (Nat.zero_le _) ho (fun j hj => absurd hj (by omega))
      refine ⟨fun e => by omega, fun i hi => ?_⟩
      obtain rfl : i = 0 := by omega
      rw [linesA, if_pos hc]
      simp
    · have ho : Lib.occAt (x :: y :: r) crlf 0 = false := by rw [occ_cons]; exact decide_eq_false hc
      have hd := Lib.index_drop (s := x :: y :: r) (sub := crlf) (i := 1) (Lib.NoOcc.succ (Lib.NoOcc.zero _ _) ho) (by simp)
      rw [show (x :: y :: r).drop 1 = y :: r from rfl] at hd
      obtain ⟨h1, h2⟩ := index_lines n (y :: r) (acc ++ [x]) (by simp at h ⊢; omega)
      rw [linesA, if_neg hc]
      by_cases hm : Lib.index (y :: r) crlf = -1
      · rw [if_pos (by simp [hm])] at hd
        refine ⟨fun _ => by rw [h1 hm]; simp, fun i hi => by omega⟩
      · rw [if_neg (by simpa using hm)] at hd
        have hge := Lib.index_ge (y :: r) crlf
        refine ⟨fun e => by omega, fun i hi => ?_⟩
        obtain ⟨j, rfl⟩ : ∃ j : Nat, i = j + 1 := ⟨i - 1, by omega⟩
        rw [h2 j (by omega)]
        simp [List.append_assoc]
theorem split_lines (l : Bs) : Lib.split l crlf = linesL l := by
  have key : ∀ n, ∀ l : Bs, l.length ≤ n → Lib.splitK crlf 0 (Lib.count l crlf) l = linesA [] l := by
    intro n
    induction n with
    | zero =>
      intro l h
      obtain rfl : l = [] := List.eq_nil_of_length_eq_zero (by omega)
      decide
    | succ n ih =>
      intro l h
      obtain ⟨h1, h2⟩ := index_lines _ l [] (Nat.le_refl _)
      by_cases hm : Lib.index l crlf = -1
      · rw [Lib.count_miss hm, h1 hm]
        rfl
      · have hge := Lib.index_ge l crlf
        obtain ⟨i, hi⟩ := Int.eq_ofNat_of_zero_le (show 0 ≤ Lib.index l crlf by omega)
        have hr := Lib.index_room l crlf (by omega)
        rw [Lib.count_hit (by decide) hi, Nat.add_comm, Lib.splitK, if_neg (by simpa using hm), hi, h2 i hi]
        simp only [Int.toNat_natCast, Nat.add_zero, List.nil_append]
        rw [show crlf.length = 2 from rfl] at hr ⊢
        rw [ih _ (by rw [List.length_drop]; omega)]
  exact key _ l (Nat.le_refl _)

/-! a text cut at one byte -/
theorem occ_one (c : UInt8) (l : Bs) (i : Nat) : Lib.occAt l [c] i = true ↔ l[i]? = some c := by
  unfold Lib.occAt
  cases hd : l.drop i with
  | nil =>
    have : l.length ≤ i := by
      have := congrArg List.length hd
      simp at this
      omega
    rw [List.getElem?_eq_none this]
    simp [List.isPrefixOf]
  | cons x r =>
    have h : l[i]? = some x := by
      have := List.getElem?_drop (xs := l) (i := i) (j := 0)
      rw [hd] at this
      simpa using this.symm
    rw [h]
    simp only [List.isPrefixOf, Bool.and_true, beq_iff_eq, Option.some.injEq]
    exact eq_comm
theorem idx1_miss {c : UInt8} {l : Bs} (h : Lib.index l [c] = -1) : befL c l = l ∧ aftL c l = [] ∧ l.contains c = false := by
  rcases Lib.index_spec l [c] with ⟨_, hn⟩ | ⟨i, hi, _⟩
  · refine cut_none fun j hj he => ?_
    have := hn j (by omega)
    rw [(occ_one c l j).2 he] at this
    cases this
  · omega
theorem idx1_hit {c : UInt8} {l : Bs} {i : Nat} (h : Lib.index l [c] = i) : befL c l = l.take i ∧ aftL c l = l.drop (i + 1) ∧ l.contains c = true := by
  rcases Lib.index_spec l [c] with ⟨hm, _⟩ | ⟨j, hj, _, ho, hn⟩
  · omega
  · obtain rfl : j = i := by omega
    refine cut_at ((occ_one c l j).1 ho) fun k hk he => ?_
    have := hn k hk
    rw [(occ_one c l k).2 he] at this
    cases this
theorem bef_aft {c : UInt8} {l : Bs} (h : l.contains c = true) : l = befL c l ++ c :: aftL c l := by
  induction l with
  | nil => simp at h
  | cons x r ih =>
    by_cases hx : x = c
    · subst hx
      simp [befL, aftL]
    · have hp : (x != c) = true := by simpa using hx
      have hc : r.contains c = true := by
        rw [List.contains_cons] at h
        have : (c == x) = false := by rw [beq_eq_false_iff_ne]; exact fun e => hx e.symm
        rw [this, Bool.false_or] at h
        exact h
      have e1 : befL c (x :: r) = x :: befL c r := by unfold befL; rw [List.takeWhile_cons_of_pos (p := (· != _)) hp]
      have e2 : aftL c (x :: r) = aftL c r := by unfold aftL; rw [List.dropWhile_cons_of_pos (p := (· != _)) hp]
      rw [e1, e2, List.cons_append, ← ih hc]
theorem bef_sum {c : UInt8} {l : Bs} (h : l.contains c = true) : (befL c l).length + 1 + (aftL c l).length = l.length := by
  have := congrArg List.length (bef_aft h)
  simp at this
  omega
theorem cut_app {c : UInt8} {a : Bs} (h : ∀ x ∈ a, x ≠ c) (r : Bs) : befL c (a ++ c :: r) = a ∧ aftL c (a ++ c :: r) = r ∧ (a ++ c :: r).contains c = true := by
  refine ⟨?_, ?_, by simp⟩
  · induction a with
    | nil => simp [befL]
    | cons x a ih =>
      have hx : (x != c) = true := by simpa using h x (by simp)
      have := ih fun y hy => h y (by simp [hy])
      unfold befL at this ⊢
      rw [List.cons_append, List.takeWhile_cons_of_pos (p := (· != _)) hx, this]
  · induction a with
    | nil => simp [aftL]
    | cons x a ih =>
      have hx : (x != c) = true := by simpa using h x (by simp)
      have := ih fun y hy => h y (by simp [hy])
      unfold aftL at this ⊢
      rw [List.cons_append, List.dropWhile_cons_of_pos (p := (· != _)) hx, this]
/-- the parts that SplitN tells -/
theorem splitn_yes {l : Bs} (h : two l = true) : Lib.splitK [32] 0 (min 3 (l.length + 1) - 1) l = [p1 l, p2 l, p3 l] := by
  unfold two at h
  rw [Bool.and_eq_true] at h
  have h1 := bef_sum h.1
  have h2 := bef_sum h.2
  have hm : ∀ x : Bs, x.contains 32 = true → ¬ (Lib.index x [32] == -1) = true := by
    intro x hx e
    have := (idx1_miss (c := 32) (beq_iff_eq.1 e)).2.2
    rw [hx] at this
    cases this
  have hk : ∀ x : Bs, x.contains 32 = true → ∃ i : Nat, Lib.index x [32] = i := fun x hx => by
    have hge := Lib.index_ge x [32]
    have : ¬ Lib.index x [32] = -1 := fun e => hm x hx (beq_iff_eq.2 e)
    exact Int.eq_ofNat_of_zero_le (by omega)
  obtain ⟨i, hi⟩ := hk _ h.1
  obtain ⟨b1, a1, _⟩ := idx1_hit hi
  obtain ⟨j, hj⟩ := hk _ h.2
  obtain ⟨b2, a2, _⟩ := idx1_hit hj
  rw [show min 3 (l.length + 1) - 1 = 2 by omega, Lib.splitK, if_neg (hm _ h.1), hi]
  simp only [Int.toNat_natCast, Nat.add_zero, List.length_cons, List.length_nil, Nat.zero_add]
  rw [← a1, ← b1, Lib.splitK, if_neg (hm _ h.2), hj]
  simp only [Int.toNat_natCast, Nat.add_zero, List.length_cons, List.length_nil, Nat.zero_add]
  rw [← a2, ← b2]
  rfl
theorem splitn_no {l : Bs} (h : two l = false) : (Lib.splitK [32] 0 (min 3 (l.length + 1) - 1) l).length < 3 := by
  by_cases h1 : Lib.index l [32] = -1
  · have : ∀ k, (Lib.splitK [32] 0 k l).length = 1 := by
      intro k
      cases k with
      | zero => rfl
      | succ k => rw [Lib.splitK, if_pos (beq_iff_eq.2 h1)]; rfl
    rw [this]; omega
  · have hge := Lib.index_ge l [32]
    obtain ⟨i, hi⟩ := Int.eq_ofNat_of_zero_le (show 0 ≤ Lib.index l [32] by omega)
    obtain ⟨b1, a1, c1⟩ := idx1_hit hi
    have h2 : (aftL 32 l).contains 32 = false := by
      unfold two at h
      rw [c1, Bool.true_and] at h
      exact h
    have h3 : Lib.index (aftL 32 l) [32] = -1 := by
      rcases Lib.index_spec (aftL 32 l) [32] with ⟨hm, _⟩ | ⟨j, hj, _⟩
      · exact hm
      · have := (idx1_hit hj).2.2
        rw [h2] at this
        cases this
    have h4 : ∀ k, (Lib.splitK [32] 0 k (aftL 32 l)).length = 1 := by
      intro k
      cases k with
      | zero => rfl
      | succ k => rw [Lib.splitK, if_pos (beq_iff_eq.2 h3)]; rfl
    have key : ∀ k, (Lib.splitK [32] 0 k l).length < 3 := by
      intro k
      cases k with
      | zero => simp [Lib.splitK]
      | succ k =>
        rw [Lib.splitK, if_neg (by simpa using h1), hi]
        simp only [Int.toNat_natCast, Nat.add_zero, List.length_cons, List.length_nil, Nat.zero_add]
        rw [← a1, h4]
        omega
    exact key _

/-! F4 -/
theorem nameC_no : ∀ c : UInt8, nameC c = true → c ≠ 13 ∧ c ≠ 32 := by
  intro c h
  constructor
  · rintro rfl; revert h; decide
  · rintro rfl; revert h; decide
theorem valC_no : ∀ c : UInt8, valC c = true → c ≠ 13 := by
  rintro c h rfl; revert h; decide
theorem tgtC_no : ∀ c : UInt8, tgtC c = true → c ≠ 13 ∧ c ≠ 32 := by
  intro c h
  constructor
  · rintro rfl; revert h; decide
  · rintro rfl; revert h; decide
theorem name_all {l : Bs} (h : nameB l = true) : ∀ c ∈ l, c ≠ 13 ∧ c ≠ 32 := by
  unfold nameB at h
  simp only [Bool.and_eq_true, List.all_eq_true] at h
  exact fun c hc => nameC_no c (h.2 c hc)
theorem value_all {l : Bs} (h : valueB l = true) : ∀ c ∈ l, c ≠ 13 := by
  unfold valueB at h
  simp only [Bool.and_eq_true, List.all_eq_true] at h
  exact fun c hc => valC_no c (h.2 c hc)
theorem target_all {l : Bs} (h : targetB l = true) : ∀ c ∈ l, c ≠ 13 ∧ c ≠ 32 := by
  unfold targetB at h
  simp only [Bool.and_eq_true, List.all_eq_true] at h
  exact fun c hc => tgtC_no c (h.2 c hc)
theorem reason_all {l : Bs} (h : reasonB l = true) : ∀ c ∈ l, c ≠ 13 := by
  unfold reasonB at h
  simp only [Bool.and_eq_true, List.all_eq_true] at h
  exact fun c hc => valC_no c (h.2 c hc)
theorem text_01 {mi : Int} (h : mi = 0 ∨ mi = 1) : textN mi 10 = [48 + mi.toNat.toUInt8] := by
  rcases h with rfl | rfl
  · rw [textN, if_pos ⟨by decide, by decide⟩]
    show dgs 10 0 = _
    rw [dgs_small (by decide)]
    decide
  · rw [textN, if_pos ⟨by decide, by decide⟩]
    show dgs 10 1 = _
    rw [dgs_small (by decide)]
    decide
theorem ver_no {mi : Int} (h : mi = 0 ∨ mi = 1) : (∀ c ∈ verT mi, c ≠ 13 ∧ c ≠ 32) ∧ versL (verT mi) = (mi, 0) ∧ (verT mi).length = 8 := by
  unfold verT
  rw [text_01 h]
  rcases h with rfl | rfl <;> decide
/-- three digits -/
theorem text_st {st : Int} (h : statB st = true) : ∃ a b c : Nat, textN st 10 = [chN a, chN b, chN c] ∧ a < 10 ∧ b < 10 ∧ c < 10 := by
  unfold statB at h
  simp only [Bool.and_eq_true, decide_eq_true_eq] at h
  obtain ⟨n, rfl⟩ := Int.eq_ofNat_of_zero_le (show 0 ≤ st by omega)
  rw [textN, if_pos ⟨fit_iff.2 (by omega), .inl rfl⟩]
  refine ⟨n / 10 / 10, n / 10 % 10, n % 10, ?_, by omega, by omega, by omega⟩
  show dgs 10 n = _
  rw [dgs_big (by omega) (by omega), dgs_big (by omega) (by omega), dgs_small (by omega)]
  rfl
theorem chN_dig {d : Nat} (h : d < 10) : digC (chN d) = true ∧ chN d ≠ 13 ∧ chN d ≠ 32 := by
  have : ∀ d : Fin 10, digC (chN d.1) = true ∧ chN d.1 ≠ 13 ∧ chN d.1 ≠ 32 := by decide
  exact this ⟨d, h⟩
theorem st_facts {st : Int} (h : statB st = true) : (textN st 10).length = 3 ∧ (textN st 10).all digC = true ∧ (∀ c ∈ textN st 10, c ≠ 13 ∧ c ≠ 32) ∧ parseN (textN st 10) 10 = (st, 0) := by
  obtain ⟨a, b, c, he, ha, hb, hc⟩ := text_st h
  have hp := parse_text (n := st) (base := 10) (.inl rfl) (by unfold statB at h; simp only [Bool.and_eq_true, decide_eq_true_eq] at h; omega) (by unfold statB at h; simp only [Bool.and_eq_true, decide_eq_true_eq] at h; omega)
  refine ⟨by rw [he]; rfl, ?_, ?_, hp⟩
  · rw [he]
    simp [chN_dig ha, chN_dig hb, chN_dig hc]
  · rw [he]
    intro x hx
    simp only [List.mem_cons, List.not_mem_nil, or_false] at hx
    rcases hx with rfl | rfl | rfl
    · exact (chN_dig ha).2
    · exact (chN_dig hb).2
    · exact (chN_dig hc).2
theorem kind_parts {h : Hd} {a : Bool} (hr : rightB h a = true) : (h.mi = 0 ∨ h.mi = 1) ∧ h.fs.length ≤ 20 ∧ (∀ f ∈ h.fs, fieldB f = true) ∧ kindB h a = true := by
  unfold rightB fieldsB at hr
  simp only [Bool.and_eq_true, Bool.or_eq_true, decide_eq_true_eq, List.all_eq_true] at hr
  exact ⟨hr.1.1, hr.1.2.1, hr.1.2.2, hr.2⟩
/-- the first line that is printed tells the head -/
theorem first_back {h : Hd} {a : Bool} (hr : rightB h a = true) : firstL (firstT h a) a = ({ h with fs := [] }, 0) ∧ ∀ c ∈ firstT h a, c ≠ 13 := by
  obtain ⟨hm, _, _, hk⟩ := kind_parts hr
  obtain ⟨v1, v2, v3⟩ := ver_no hm
  unfold kindB at hk
  cases a with
  | false =>
    rw [if_neg (by decide)] at hk
    simp only [Bool.and_eq_true, decide_eq_true_eq, List.isEmpty_iff] at hk
    obtain ⟨⟨⟨k1, k2⟩, k3⟩, k4⟩ := hk
    have e : firstT h false = h.m ++ 32 :: (h.t ++ 32 :: verT h.mi) := by
      rw [firstT, if_neg (by decide)]
      simp
    obtain ⟨a1, a2, a3⟩ := cut_app (c := 32) (a := h.m) (fun x hx => (name_all k1 x hx).2) (h.t ++ 32 :: verT h.mi)
    obtain ⟨b1, b2, b3⟩ := cut_app (c := 32) (a := h.t) (fun x hx => (target_all k2 x hx).2) (verT h.mi)
    constructor
    · rw [e, firstL, if_neg (by decide), reqL]
      unfold two p1 p2 p3
      rw [a1, a2, a3, b1, b2, b3, v2, if_pos ⟨rfl, k1, k2⟩]
      obtain ⟨m, t, st, r, mi, fs⟩ := h
      simp only at k3 k4
      rw [k3, k4]
    · rw [e]
      intro c hc
      simp only [List.mem_append, List.mem_cons] at hc
      rcases hc with hc | hc | hc | hc | hc
      · exact (name_all k1 c hc).1
      · rw [hc]; decide
      · exact (target_all k2 c hc).1
      · rw [hc]; decide
      · exact (v1 c hc).1
  | true =>
    rw [if_pos rfl] at hk
    simp only [Bool.and_eq_true, List.isEmpty_iff] at hk
    obtain ⟨⟨⟨k1, k2⟩, k3⟩, k4⟩ := hk
    obtain ⟨s1, s2, s3, s4⟩ := st_facts k1
    have e : firstT h true = verT h.mi ++ 32 :: (textN h.st 10 ++ 32 :: h.r) := by
      rw [firstT, if_pos rfl]
      simp
    obtain ⟨a1, a2, a3⟩ := cut_app (c := 32) (a := verT h.mi) (fun x hx => (v1 x hx).2) (textN h.st 10 ++ 32 :: h.r)
    obtain ⟨b1, b2, b3⟩ := cut_app (c := 32) (a := textN h.st 10) (fun x hx => (s3 x hx).2) h.r
    constructor
    · rw [e, firstL, if_pos rfl, ansL]
      unfold two p1 p2 p3
      rw [a1, a2, a3, b1, b2, b3, v2, s4, if_pos ⟨rfl, s1, s2, k2⟩, if_pos rfl, if_pos k1]
      obtain ⟨m, t, st, r, mi, fs⟩ := h
      simp only at k3 k4
      rw [k3, k4]
    · rw [e]
      intro c hc
      simp only [List.mem_append, List.mem_cons] at hc
      rcases hc with hc | hc | hc | hc | hc
      · exact (v1 c hc).1
      · rw [hc]; decide
      · exact (s3 c hc).1
      · rw [hc]; decide
      · exact reason_all k2 c hc
def lineF (f : Bs × Bs) : Bs := f.1 ++ 58 :: 32 :: f.2
def tailT (fs : List (Bs × Bs)) : Bs := fs.flatMap fun f => 13 :: 10 :: lineF f
theorem tail_eq (fs : List (Bs × Bs)) : crlf ++ fs.flatMap fieldT = tailT fs ++ crlf := by
  induction fs with
  | nil => rfl
  | cons f r ih =>
    show crlf ++ (fieldT f ++ r.flatMap fieldT) = (13 :: 10 :: lineF f) ++ tailT r ++ crlf
    have e : fieldT f = lineF f ++ crlf := by simp [fieldT, lineF]
    rw [e, List.append_assoc, List.append_assoc, ih]
    rfl
theorem text_eq (h : Hd) (a : Bool) : textH h a = (firstT h a ++ tailT h.fs) ++ [13, 10, 13, 10] := by
  unfold textH
  rw [List.append_assoc (firstT h a), tail_eq, List.append_assoc, List.append_assoc, List.append_assoc]
  rfl
theorem line_no {f : Bs × Bs} (h : fieldB f = true) : ∀ c ∈ lineF f, c ≠ 13 := by
  unfold fieldB at h
  rw [Bool.and_eq_true] at h
  intro c hc
  simp only [lineF, List.mem_append, List.mem_cons] at hc
  rcases hc with hc | hc | hc | hc
  · exact (name_all h.1 c hc).1
  · rw [hc]; decide
  · rw [hc]; decide
  · exact value_all h.2 c hc
theorem lines_tail (fs : List (Bs × Bs)) : ∀ a : Bs, (∀ c ∈ a, c ≠ 13) → (∀ f ∈ fs, fieldB f = true) → linesA [] (a ++ tailT fs) = a :: fs.map lineF := by
  induction fs with
  | nil =>
    intro a ha _
    rw [show tailT [] = [] from rfl, List.append_nil, lines_end [] a ha]
    rfl
  | cons f r ih =>
    intro a ha hf
    have e : tailT (f :: r) = 13 :: 10 :: (lineF f ++ tailT r) := rfl
    rw [e, lines_cut [] a _ ha, ih _ (line_no (hf f (by simp))) (fun g hg => hf g (by simp [hg]))]
    rfl
theorem pf_lines (fs : List (Bs × Bs)) : ∀ acc : List (Bs × Bs), acc.length + fs.length ≤ 20 → (∀ f ∈ fs, fieldB f = true) → pfL acc (fs.map lineF) = (acc ++ fs, 0) := by
  induction fs with
  | nil => intro acc _ _; simp [pfL]
  | cons f r ih =>
    intro acc hl hf
    have h1 := hf f (by simp)
    unfold fieldB at h1
    rw [Bool.and_eq_true] at h1
    have hp : parse3 (lineF f) = (f.1, f.2, 0) := parse_back h1.1 h1.2
    rw [List.map_cons, pfL, if_neg (by simp at hl; omega), hp, if_pos rfl, ih _ (by simp at hl ⊢; omega) (fun g hg => hf g (by simp [hg]))]
    simp
/-- F4: what is printed is parsed to the same -/
theorem back_H {h : Hd} {a : Bool} (hr : rightB h a = true) (hl : (textH h a).length ≤ 2004) : parseH ((textH h a).take ((textH h a).length - 4)) a = (h, 0) := by
  obtain ⟨_, hn, hf, _⟩ := kind_parts hr
  obtain ⟨f1, f2⟩ := first_back hr
  have e : (textH h a).take ((textH h a).length - 4) = firstT h a ++ tailT h.fs := by
    rw [text_eq, List.length_append]
    exact List.take_left' (by simp)
  have hlen : (firstT h a ++ tailT h.fs).length ≤ 2000 := by
    rw [text_eq, List.length_append] at hl
    simp only [List.length_cons, List.length_nil] at hl
    omega
  have hL : linesL (firstT h a ++ tailT h.fs) = firstT h a :: h.fs.map lineF := lines_tail _ _ f2 hf
  have hp := pf_lines h.fs [] (by simp; omega) hf
  have e1 : (firstL (firstT h a) a).2 = 0 := by rw [f1]
  have e2 : (pfL [] (h.fs.map lineF)).2 = 0 := by rw [hp]
  rw [e, parseH, if_neg (by omega), hL]
  show parseL (firstT h a) (h.fs.map lineF) a = _
  rw [parseL, if_pos e1, if_pos e2, f1, hp]
  rfl
theorem vers_ok {l : Bs} (h : (versL l).2 = 0) : ((versL l).1 = 0 ∨ (versL l).1 = 1) ∧ l.length = 8 := by
  unfold versL at h ⊢
  split at h
  · next hc =>
    rw [if_pos hc]
    split at h
    · next hd =>
      rw [if_pos hd]
      refine ⟨?_, hc.1⟩
      have h2 := hc.2.2.2.2
      unfold digC at h2
      simp only [decide_eq_true_eq] at h2
      have := hd.2
      simp only
      omega
    · cases h
  · cases h
theorem first_right {l : Bs} {a : Bool} (h : (firstL l a).2 = 0) : kindB (firstL l a).1 a = true ∧ ((firstL l a).1.mi = 0 ∨ (firstL l a).1.mi = 1) ∧ (firstT (firstL l a).1 a).length ≤ l.length := by
  unfold firstL at h ⊢
  cases a with
  | false =>
    rw [if_neg (by decide)] at h ⊢
    unfold reqL at h ⊢
    split at h
    · next hc =>
      rw [if_pos hc]
      obtain ⟨v1, v2⟩ := vers_ok h
      obtain ⟨v3, v4, v5⟩ := ver_no v1
      refine ⟨?_, v1, ?_⟩
      · simp only [kindB, hc.2.1, hc.2.2]
        rfl
      · have h2 := hc.1
        unfold two at h2
        rw [Bool.and_eq_true] at h2
        have s1 := bef_sum h2.1
        have s2 := bef_sum h2.2
        simp only [firstT, p1, p2, p3] at v2 v5 ⊢
        rw [if_neg (by decide)]
        simp only [List.length_append, List.length_cons, List.length_nil, v5]
        omega
    · cases h
  | true =>
    rw [if_pos rfl] at h ⊢
    unfold ansL at h ⊢
    split at h
    · next hc =>
      rw [if_pos hc]
      split at h
      · next hv =>
        rw [if_pos hv]
        split at h
        · next hs =>
          rw [if_pos hs]
          obtain ⟨v1, v2⟩ := vers_ok hv
          obtain ⟨v3, v4, v5⟩ := ver_no v1
          obtain ⟨t1, _⟩ := st_facts hs
          refine ⟨?_, v1, ?_⟩
          · simp only [kindB, hs, hc.2.2.2]
            rfl
          · have h2 := hc.1
            unfold two at h2
            rw [Bool.and_eq_true] at h2
            have s1 := bef_sum h2.1
            have s2 := bef_sum h2.2
            have h3 := hc.2.1
            simp only [firstT, p1, p2, p3] at v2 v5 t1 h3 ⊢
            rw [if_pos trivial]
            simp only [List.length_append, List.length_cons, List.length_nil, v5, t1]
            omega
        · cases h
      · next hv => exact absurd h hv
    · cases h
theorem parse3_ok {l : Bs} (h : (parse3 l).2.2 = 0) : fieldB ((parse3 l).1, (parse3 l).2.1) = true ∧ (fieldT ((parse3 l).1, (parse3 l).2.1)).length ≤ l.length + 3 := by
  unfold parse3 at h ⊢
  split at h
  · next hc =>
    rw [if_pos hc]
    refine ⟨by unfold fieldB; rw [hc.2.1, hc.2.2]; rfl, ?_⟩
    have h1 := bef_sum hc.1
    have h2 := trim_len (aftL 58 l)
    simp [fieldT, crlf]
    omega
  · cases h
theorem pf_ok (ls : List Bs) : ∀ acc : List (Bs × Bs), acc.length ≤ 20 → (∀ f ∈ acc, fieldB f = true) → (pfL acc ls).2 = 0 → (pfL acc ls).1.length ≤ 20 ∧ (∀ f ∈ (pfL acc ls).1, fieldB f = true) ∧ ((pfL acc ls).1.flatMap fieldT).length ≤ (acc.flatMap fieldT).length + total ls + ((pfL acc ls).1.length - acc.length) ∧ acc.length ≤ (pfL acc ls).1.length := by
  induction ls with
  | nil => intro acc h1 h2 _; exact ⟨h1, h2, by simp [pfL, total], by simp [pfL]⟩
  | cons l r ih =>
    intro acc h1 h2 h3
    rw [pfL] at h3 ⊢
    by_cases h20 : acc.length = 20
    · rw [if_pos h20] at h3; cases h3
    · rw [if_neg h20] at h3 ⊢
      by_cases hp : (parse3 l).2.2 = 0
      · rw [if_pos hp] at h3 ⊢
        obtain ⟨q1, q2⟩ := parse3_ok hp
        obtain ⟨i1, i2, i3, i4⟩ := ih (acc ++ [((parse3 l).1, (parse3 l).2.1)]) (by simp; omega) (fun f hf => by
          simp only [List.mem_append, List.mem_cons, List.not_mem_nil, or_false] at hf
          rcases hf with hf | rfl
          · exact h2 f hf
          · exact q1) h3
        refine ⟨i1, i2, ?_, by simp at i4; omega⟩
        have e : ((acc ++ [((parse3 l).1, (parse3 l).2.1)]).flatMap fieldT).length = (acc.flatMap fieldT).length + (fieldT ((parse3 l).1, (parse3 l).2.1)).length := by
          rw [List.flatMap_append, List.length_append]
          simp
        have e2 : total (l :: r) = l.length + 2 + total r := by simp [total]
        rw [e] at i3
        rw [List.length_append, List.length_cons, List.length_nil] at i3 i4
        omega
      · rw [if_neg hp] at h3
        exact absurd h3 hp
theorem parseL_right {l : Bs} {r : List Bs} {a : Bool} (h : (parseL l r a).2 = 0) : rightB (parseL l r a).1 a = true ∧ (textH (parseL l r a).1 a).length ≤ l.length + 2 + total r + 22 := by
  unfold parseL at h ⊢
  by_cases h2 : (firstL l a).2 = 0
  · rw [if_pos h2] at h ⊢
    by_cases h3 : (pfL [] r).2 = 0
    · rw [if_pos h3]
      obtain ⟨k1, k2, k3⟩ := first_right h2
      obtain ⟨q1, q2, q3, q4⟩ := pf_ok r [] (by simp) (by simp) h3
      refine ⟨?_, ?_⟩
      · unfold rightB fieldsB
        simp only [Bool.and_eq_true, Bool.or_eq_true, decide_eq_true_eq, List.all_eq_true]
        exact ⟨⟨k2, q1, q2⟩, k1⟩
      · unfold textH
        simp only [List.length_append]
        have e3 : firstT { (firstL l a).1 with fs := (pfL [] r).1 } a = firstT (firstL l a).1 a := rfl
        rw [e3]
        have e4 : (([] : List (Bs × Bs)).flatMap fieldT).length = 0 := rfl
        have e5 : ([] : List (Bs × Bs)).length = 0 := rfl
        have : crlf.length = 2 := rfl
        show _ + crlf.length + ((pfL [] r).1.flatMap fieldT).length + crlf.length ≤ _
        omega
    · rw [if_neg h3] at h; exact absurd h h3
  · rw [if_neg h2] at h; exact absurd h h2
/-- F4: what is parsed is right, and its text is not much longer -/
theorem parse_right {s : Bs} {a : Bool} (h : (parseH s a).2 = 0) : rightB (parseH s a).1 a = true ∧ (textH (parseH s a).1 a).length ≤ s.length + 24 := by
  unfold parseH at h ⊢
  by_cases h1 : 2000 < s.length
  · rw [if_pos h1] at h; cases h
  · rw [if_neg h1] at h ⊢
    obtain ⟨q1, q2⟩ := parseL_right h
    refine ⟨q1, Nat.le_trans q2 ?_⟩
    have hT := lines_total [] s
    have hne := lines_ne [] s
    unfold linesL
    cases hl : linesA [] s with
    | nil => exact absurd hl hne
    | cons l r =>
      rw [hl] at hT
      have e2 : total (l :: r) = l.length + 2 + total r := by simp [total]
      have e5 : ([] : Bs).length = 0 := rfl
      simp only [List.headD_cons, List.tail_cons]
      omega

end Go.Proofs.YtdlihfbaepjliaaGreatDoor
