/-
  Bodies in chunks as lists alone: what is read byte by byte, that it does not hang on the pieces, and that what is encoded is read to the same.
-/
import Derived.Test.YtaoajilgilbmmaaDoorFm
import Derived.Test.YtaoajilgilbmmaaDoorNum
namespace Go.Proofs.YtaoajilgilbmmaaDoor

/-- how far a body in chunks is read -/
structure Ck where
  s : Int
  l : Int
  ln : Bs
  m : Int
def Ck.zero : Ck := ⟨0, 0, [], 0⟩
def okC (c : Ck) : Prop := 0 ≤ c.s ∧ c.s ≤ 4 ∧ 0 ≤ c.l ∧ c.l ≤ 4000 ∧ c.ln.length ≤ 200 ∧ 0 ≤ c.m ∧ c.m ≤ 4000 ∧ (c.s = 1 ↔ 0 < c.l) ∧ (c.ln = [] ∨ (c.s ≠ 1 ∧ c.s ≠ 4))
instance (c : Ck) : Decidable (okC c) := by unfold okC; exact inferInstance
/-- what a size line tells -/
def sizeN (l : Bs) : Int × Int := if (parseN (trimL (befL 59 l)) 16).2 = 1 then (0, 23) else if (parseN (trimL (befL 59 l)) 16).2 ≠ 0 then (0, 2) else ((parseN (trimL (befL 59 l)) 16).1, 0)
/-- a line is read -/
def lineC (c : Ck) (l : Bs) : Ck × Int :=
  if c.s = 0 then
    (if (sizeN l).2 ≠ 0 then (⟨c.s, c.l, [], c.m⟩, (sizeN l).2) else if 4000 - c.m < (sizeN l).1 then (⟨c.s, c.l, [], c.m⟩, 2)
      else (⟨if (sizeN l).1 = 0 then 3 else 1, (sizeN l).1, [], c.m⟩, 0))
  else if c.s = 2 then (if l = [] then (⟨0, c.l, [], c.m⟩, 0) else (⟨c.s, c.l, [], c.m⟩, 23))
  else if l = [] then (⟨4, c.l, [], c.m⟩, 0) else if (parse3 l).2.2 = 0 then (⟨c.s, c.l, [], c.m⟩, 0) else (⟨c.s, c.l, [], c.m⟩, 23)
/-- does a line end so? -/
def endsL (l : Bs) : Bool := decide (2 ≤ l.length) && decide (l.drop (l.length - 2) = [13, 10])
/-- one byte is read: the chunks, the body's bytes, the error -/
def stepC (c : Ck) (b : UInt8) : Ck × Bs × Int :=
  if c.s = 1 then (⟨if c.l - 1 = 0 then 2 else 1, c.l - 1, c.ln, c.m + 1⟩, [b], 0)
  else if endsL (c.ln ++ [b]) = true then ((lineC c ((c.ln ++ [b]).take (c.ln.length - 1))).1, [], (lineC c ((c.ln ++ [b]).take (c.ln.length - 1))).2)
  else if 200 < c.ln.length + 1 then (c, [], 2) else (⟨c.s, c.l, c.ln ++ [b], c.m⟩, [], 0)
/-- bytes are read: the chunks, how many, the body, the error -/
def feedA (c : Ck) (acc : Bs) (n : Nat) : Bs → Ck × Nat × Bs × Int
  | [] => (c, n, acc, 0)
  | b :: r => if c.s = 4 then (c, n, acc, 0) else if (stepC c b).2.2 ≠ 0 then (c, n, acc, (stepC c b).2.2) else feedA (stepC c b).1 (acc ++ (stepC c b).2.1) (n + 1) r
/-- Feed -/
def feedC (c : Ck) (s : Bs) : Ck × Nat × Bs × Int :=
  if okC c then (if (feedA c [] 0 s).2.2.2 = 0 then feedA c [] 0 s else (c, 0, [], (feedA c [] 0 s).2.2.2)) else (c, 0, [], 1)

theorem feed_end {c : Ck} (h : c.s = 4) (acc : Bs) (n : Nat) (s : Bs) : feedA c acc n s = (c, n, acc, 0) := by
  cases s with
  | nil => rfl
  | cons b r => rw [feedA, if_pos h]
theorem feed_acc (s : Bs) : ∀ (c : Ck) (acc : Bs) (n : Nat), feedA c acc n s = ((feedA c [] 0 s).1, n + (feedA c [] 0 s).2.1, acc ++ (feedA c [] 0 s).2.2.1, (feedA c [] 0 s).2.2.2) := by
  induction s with
  | nil => intro c acc n; simp [feedA]
  | cons b r ih =>
    intro c acc n
    rw [feedA, feedA]
    by_cases h4 : c.s = 4
    · rw [if_pos h4, if_pos h4]
      simp
    · rw [if_neg h4, if_neg h4]
      by_cases he : (stepC c b).2.2 ≠ 0
      · rw [if_pos he, if_pos he]
        simp
      · rw [if_neg he, if_neg he, ih _ (acc ++ _), ih _ ([] ++ (stepC c b).2.1) (0 + 1)]
        simp [Nat.add_assoc, Nat.add_comm 1]
theorem feed_app (s t : Bs) : ∀ (c : Ck) (acc : Bs) (n : Nat), feedA c acc n (s ++ t) = if (feedA c acc n s).2.2.2 = 0 then feedA (feedA c acc n s).1 (feedA c acc n s).2.2.1 (feedA c acc n s).2.1 t else feedA c acc n s := by
  induction s with
  | nil => intro c acc n; simp [feedA]
  | cons b r ih =>
    intro c acc n
    rw [List.cons_append, feedA, feedA]
    by_cases h4 : c.s = 4
    · rw [if_pos h4, if_pos h4, if_pos rfl, feed_end h4]
    · rw [if_neg h4, if_neg h4]
      by_cases he : (stepC c b).2.2 ≠ 0
      · rw [if_pos he, if_pos he, if_neg he]
      · rw [if_neg he, if_neg he, ih]
theorem feed_len (s : Bs) : ∀ (c : Ck), (feedA c [] 0 s).2.1 ≤ s.length ∧ ((feedA c [] 0 s).2.2.2 = 0 → (feedA c [] 0 s).2.1 < s.length → (feedA c [] 0 s).1.s = 4) := by
  induction s with
  | nil => intro c; simp [feedA]
  | cons b r ih =>
    intro c
    rw [feedA]
    by_cases h4 : c.s = 4
    · rw [if_pos h4]
      exact ⟨Nat.zero_le _, fun _ _ => h4⟩
    · rw [if_neg h4]
      by_cases he : (stepC c b).2.2 ≠ 0
      · rw [if_pos he]
        exact ⟨Nat.zero_le _, fun h => absurd h he⟩
      · rw [if_neg he, feed_acc]
        have := ih (stepC c b).1
        simp only [List.length_cons]
        exact ⟨by omega, fun h1 h2 => this.2 h1 (by omega)⟩

/-! what is valid stays valid -/
theorem size_pos (l : Bs) : 0 ≤ (sizeN l).1 := by
  unfold sizeN
  split
  · exact Int.le_refl _
  · split
    · exact Int.le_refl _
    · rename_i h1 h2
      have h0 : (parseN (trimL (befL 59 l)) 16).2 = 0 := Classical.not_not.1 h2
      revert h0
      unfold parseN
      split
      · rename_i h
        split
        · intro _
          exact num_ge (by decide) _ 0 (Int.le_refl _) h.2.2
        · intro h; cases h
      · intro h; cases h
theorem line_ok {c : Ck} (h : okC c) (h1 : c.s ≠ 1) (l : Bs) (he : (lineC c l).2 = 0) : okC (lineC c l).1 := by
  obtain ⟨a1, a2, a3, a4, a5, a6, a7, a8, a9⟩ := h
  have hl0 : c.l = 0 := by
    have : ¬ 0 < c.l := fun h => h1 (a8.2 h)
    omega
  have hp := size_pos l
  revert he
  unfold lineC
  by_cases s0 : c.s = 0
  · rw [if_pos s0]
    by_cases e1 : (sizeN l).2 ≠ 0
    · rw [if_pos e1]
      exact fun h => absurd h e1
    · rw [if_neg e1]
      by_cases e2 : 4000 - c.m < (sizeN l).1
      · rw [if_pos e2]
        exact fun h => by cases h
      · rw [if_neg e2]
        intro _
        by_cases z : (sizeN l).1 = 0
        · simp only [okC, z]
          simp
          omega
        · simp only [okC, if_neg z]
          simp
          omega
  · rw [if_neg s0]
    by_cases s2 : c.s = 2
    · rw [if_pos s2]
      by_cases hl : l = []
      · rw [if_pos hl]
        intro _
        simp [okC, hl0]
        omega
      · rw [if_neg hl]
        exact fun h => by cases h
    · rw [if_neg s2]
      by_cases hl : l = []
      · rw [if_pos hl]
        intro _
        simp [okC, hl0]
        omega
      · rw [if_neg hl]
        split
        · intro _
          simp [okC, hl0, h1]
          omega
        · exact fun h => by cases h
theorem step_ok {c : Ck} (h : okC c) (h4 : c.s ≠ 4) (b : UInt8) (hm : c.s = 1 → c.l + c.m ≤ 4000) (he : (stepC c b).2.2 = 0) : okC (stepC c b).1 := by
  revert he
  unfold stepC
  by_cases s1 : c.s = 1
  · rw [if_pos s1]
    intro _
    have hm := hm s1
    obtain ⟨a1, a2, a3, a4, a5, a6, a7, a8, a9⟩ := h
    have hl := a8.1 s1
    have hln : c.ln = [] := by
      rcases a9 with h | h
      · exact h
      · exact absurd s1 h.1
    by_cases z : c.l - 1 = 0
    · simp only [okC, hln, z]
      simp
      omega
    · simp only [okC, if_neg z, hln]
      simp
      omega
  · rw [if_neg s1]
    split
    · intro he
      exact line_ok h s1 _ he
    · split
      · exact fun h => by cases h
      · intro _
        rename_i hl
        obtain ⟨a1, a2, a3, a4, a5, a6, a7, a8, a9⟩ := h
        exact ⟨a1, a2, a3, a4, by simp only [List.length_append, List.length_cons, List.length_nil]; omega, a6, a7, a8, .inr ⟨s1, h4⟩⟩
/-- valid, and there is room for what is left -/
def okS (c : Ck) : Prop := okC c ∧ (c.s = 1 → c.l + c.m ≤ 4000)
theorem step_okS {c : Ck} (h : okS c) (h4 : c.s ≠ 4) (b : UInt8) (he : (stepC c b).2.2 = 0) : okS (stepC c b).1 := by
  refine ⟨step_ok h.1 h4 b h.2 he, ?_⟩
  have hm := h.2
  revert he
  unfold stepC
  by_cases s1 : c.s = 1
  · rw [if_pos s1]
    intro _ _
    have := hm s1
    show c.l - 1 + (c.m + 1) ≤ 4000
    omega
  · rw [if_neg s1]
    split
    · unfold lineC
      by_cases s0 : c.s = 0
      · rw [if_pos s0]
        split
        · intro _ hs
          exact absurd hs s1
        · split
          · intro _ hs
            exact absurd hs s1
          · rename_i e2
            intro _ _
            show (sizeN _).1 + c.m ≤ 4000
            omega
      · rw [if_neg s0]
        by_cases s2 : c.s = 2
        · rw [if_pos s2]
          split
          · intro _ hs
            exact absurd (show (0 : Int) = 1 from hs) (by decide)
          · intro _ hs
            exact absurd hs s1
        · rw [if_neg s2]
          split
          · intro _ hs
            exact absurd (show (4 : Int) = 1 from hs) (by decide)
          · split
            · intro _ hs
              exact absurd hs s1
            · intro _ hs
              exact absurd hs s1
    · split
      · intro _ hs
        exact absurd hs s1
      · intro _ hs
        exact absurd hs s1
theorem feed_okS (s : Bs) : ∀ (c : Ck), okS c → (feedA c [] 0 s).2.2.2 = 0 → okS (feedA c [] 0 s).1 := by
  induction s with
  | nil => intro c h _; exact h
  | cons b r ih =>
    intro c h
    rw [feedA]
    by_cases h4 : c.s = 4
    · rw [if_pos h4]
      exact fun _ => h
    · rw [if_neg h4]
      by_cases he : (stepC c b).2.2 ≠ 0
      · rw [if_pos he]
        exact fun h => absurd h he
      · rw [if_neg he, feed_acc]
        exact fun h2 => ih _ (step_okS h h4 b (Classical.not_not.1 he)) h2

/-! what is encoded is read to the same -/
theorem ends_last {p : Bs} {b : UInt8} (h : endsL (p ++ [b]) = true) : b = 10 := by
  unfold endsL at h
  simp only [Bool.and_eq_true, decide_eq_true_eq] at h
  have h2 := congrArg List.getLast? h.2
  rw [List.getLast?_drop] at h2
  simp at h2
  exact h2.2
theorem ends_no {p : Bs} {b : UInt8} (h : b ≠ 10) : ¬ endsL (p ++ [b]) = true := fun e => h (ends_last e)
theorem ends_yes (p : Bs) : endsL (p ++ [13] ++ [10]) = true := by
  unfold endsL
  simp only [List.append_assoc, List.length_append, List.length_cons, List.length_nil, Bool.and_eq_true, decide_eq_true_eq]
  refine ⟨by omega, ?_⟩
  rw [List.drop_append_of_le_length (by omega), show p.length + 2 - 2 = p.length by omega, List.drop_length]
  rfl
theorem line_ln (s l m : Int) (q x : Bs) : lineC ⟨s, l, q, m⟩ x = lineC ⟨s, l, [], m⟩ x := rfl
theorem feed_line {s l m : Int} (h1 : s ≠ 1) (h4 : s ≠ 4) (acc rest : Bs) : ∀ (L pre : Bs) (n : Nat), (∀ b ∈ L, b ≠ 10) → pre.length + L.length + 1 ≤ 200 → (lineC ⟨s, l, [], m⟩ (pre ++ L)).2 = 0 →
    feedA ⟨s, l, pre, m⟩ acc n (L ++ 13 :: 10 :: rest) = feedA (lineC ⟨s, l, [], m⟩ (pre ++ L)).1 acc (n + L.length + 2) rest := by
  intro L
  induction L with
  | nil =>
    intro pre n _ hlen he
    simp only [List.length_nil, List.append_nil] at hlen he ⊢
    have e1 : stepC ⟨s, l, pre, m⟩ 13 = (⟨s, l, pre ++ [13], m⟩, [], 0) := by
      unfold stepC
      rw [if_neg h1, if_neg (ends_no (by decide)), if_neg (by simp only; omega)]
    have e2 : stepC ⟨s, l, pre ++ [13], m⟩ 10 = ((lineC ⟨s, l, [], m⟩ pre).1, [], 0) := by
      unfold stepC
      rw [if_neg h1, if_pos (ends_yes pre)]
      simp only [List.length_append, List.length_cons, List.length_nil]
      rw [show pre.length + 1 - 1 = pre.length by omega, List.append_assoc, List.take_append_of_le_length (Nat.le_refl _), List.take_length, line_ln, he]
    rw [List.nil_append, feedA, if_neg h4, e1, if_neg (by simp), feedA, if_neg h4, e2, if_neg (by simp)]
    simp
  | cons b r ih =>
    intro pre n hb hlen he
    have e1 : stepC ⟨s, l, pre, m⟩ b = (⟨s, l, pre ++ [b], m⟩, [], 0) := by
      unfold stepC
      simp only [List.length_cons] at hlen
      rw [if_neg h1, if_neg (ends_no (hb b (by simp))), if_neg (by simp only; omega)]
    rw [List.cons_append, feedA, if_neg h4, e1, if_neg (by simp)]
    have := ih (pre ++ [b]) (n + 1) (fun c hc => hb c (by simp [hc])) (by simp only [List.length_append, List.length_cons, List.length_nil] at hlen ⊢; omega) (by rw [List.append_assoc]; exact he)
    simp only [List.append_nil] at this ⊢
    rw [this, List.append_assoc]
    simp only [List.length_cons, List.singleton_append]
    congr 1
    omega
theorem feed_body (rest : Bs) : ∀ (p : Bs) (m : Int) (acc : Bs) (n : Nat), p ≠ [] → feedA ⟨1, (p.length : Int), [], m⟩ acc n (p ++ rest) = feedA ⟨2, 0, [], m + (p.length : Int)⟩ (acc ++ p) (n + p.length) rest := by
  intro p
  induction p with
  | nil => intro m acc n h; exact absurd rfl h
  | cons b q ih =>
    intro m acc n _
    rw [List.cons_append, feedA, if_neg (by simp)]
    by_cases hq : q = []
    · subst hq
      simp [stepC]
    · have e1 : stepC ⟨1, ((b :: q).length : Int), [], m⟩ b = (⟨1, (q.length : Int), [], m + 1⟩, [b], 0) := by
        have hq0 : 0 < q.length := List.length_pos_iff.2 hq
        unfold stepC
        rw [if_pos rfl]
        simp only [List.length_cons]
        rw [if_neg (by omega)]
        congr 2
        omega
      have hA : m + 1 + (q.length : Int) = m + ((b :: q).length : Int) := by simp only [List.length_cons]; omega
      have hB : n + 1 + q.length = n + (b :: q).length := by simp only [List.length_cons]; omega
      rw [e1, if_neg (by simp), ih (m + 1) (acc ++ [b]) (n + 1) hq, hA, hB, List.append_assoc]
      rfl
theorem dig_char {c : UInt8} (h : 0 ≤ valN c.toNat 16) : c ≠ 10 ∧ c ≠ 59 ∧ c ≠ 32 ∧ c ≠ 9 := by
  refine ⟨?_, ?_, ?_, ?_⟩ <;> (rintro rfl; revert h; decide)
theorem trim_id {l : Bs} (h : ∀ c ∈ l, bl c = false) : trimL l = l := by
  have hd : ∀ q : Bs, (∀ c ∈ q, bl c = false) → q.dropWhile bl = q := by
    intro q hq
    cases q with
    | nil => rfl
    | cons x r => rw [List.dropWhile_cons_of_neg (by rw [hq x (by simp)]; decide)]
  rw [trim_eq, rdrop, hd l.reverse (fun c hc => h c (List.mem_reverse.1 hc)), List.reverse_reverse, hd l h]
theorem dgs_short {n : Nat} (h : n < 4096) : (dgs 16 n).length ≤ 3 := by
  by_cases h1 : n < 16
  · rw [dgs_small h1]; simp
  · rw [dgs_big (by decide) (by omega), List.length_append]
    by_cases h2 : n / 16 < 16
    · rw [dgs_small h2]; simp
    · rw [dgs_big (by decide) (by omega), List.length_append, dgs_small (by omega)]; simp
theorem text_hex {n : Nat} (h : n < 4096) : textN (n : Int) 16 = dgs 16 n := by
  unfold textN
  rw [if_pos ⟨fit_iff.2 ⟨by omega, by omega⟩, .inr rfl⟩]
  rfl
theorem size_text {n : Nat} (h : n < 4096) : sizeN (textN (n : Int) 16) = ((n : Int), 0) ∧ (∀ b ∈ textN (n : Int) 16, b ≠ 10) ∧ (textN (n : Int) 16).length ≤ 3 := by
  have hd : ∀ b ∈ textN (n : Int) 16, b ≠ 10 ∧ b ≠ 59 ∧ b ≠ 32 ∧ b ≠ 9 := by
    intro b hb
    rw [text_hex h] at hb
    have := (num_dgs (b := 16) (by decide) (by decide) n).2
    unfold digsN at this
    exact dig_char (by simpa using List.all_eq_true.1 this b hb)
  have e1 : befL 59 (textN (n : Int) 16) = textN (n : Int) 16 := (cut_none (fun j _ he => (hd 59 (List.mem_of_getElem? he)).2.1 rfl)).1
  have e2 : trimL (textN (n : Int) 16) = textN (n : Int) 16 := trim_id (fun c hc => by
    have := hd c hc
    unfold bl blks
    simp only [List.contains_cons, List.contains_nil, Bool.or_false, Bool.or_eq_false_iff, beq_eq_false_iff_ne]
    exact ⟨this.2.2.1, this.2.2.2⟩)
  refine ⟨?_, fun b hb => (hd b hb).1, by rw [text_hex h]; exact dgs_short h⟩
  unfold sizeN
  rw [e1, e2, parse_text (.inr rfl) (by omega) (by omega)]
  rfl
/-- the chunks of a text, without the last -/
def encP (k : Nat) (s : Bs) : Bs :=
  if _h : s = [] ∨ k = 0 then [] else textN ((min k s.length : Nat) : Int) 16 ++ [13, 10] ++ s.take k ++ [13, 10] ++ encP k (s.drop k)
termination_by s.length
decreasing_by
  rw [List.length_drop]
  have : 0 < s.length := List.length_pos_iff.2 (fun e => _h (.inl e))
  omega
def encL (k : Nat) (s : Bs) : Bs := encP k s ++ [48, 13, 10, 13, 10]
theorem enc_nil (k : Nat) : encP k [] = [] := by rw [encP, dif_pos (.inl rfl)]
theorem enc_cons {k : Nat} {s : Bs} (hk : 0 < k) (hs : s ≠ []) : encP k s = textN ((min k s.length : Nat) : Int) 16 ++ [13, 10] ++ s.take k ++ [13, 10] ++ encP k (s.drop k) := by
  rw [encP, dif_neg (by rintro (h | h); exact hs h; omega)]
theorem line_size {m : Int} {n : Nat} (h0 : 0 < n) (h : n < 4096) (hm : m + n ≤ 4000) : lineC ⟨0, 0, [], m⟩ (textN (n : Int) 16) = (⟨1, (n : Int), [], m⟩, 0) := by
  unfold lineC
  rw [if_pos rfl, (size_text h).1, if_neg (by simp), if_neg (by simp only; omega), if_neg (by simp only; omega)]
theorem feed_enc (k : Nat) (hk : 0 < k) : ∀ (f : Nat) (s : Bs) (m : Int) (acc : Bs) (n : Nat) (rest : Bs), s.length ≤ f → m + s.length ≤ 4000 → 0 ≤ m →
    feedA ⟨0, 0, [], m⟩ acc n (encP k s ++ rest) = feedA ⟨0, 0, [], m + s.length⟩ (acc ++ s) (n + (encP k s).length) rest := by
  intro f
  induction f with
  | zero =>
    intro s m acc n rest hf _ _
    obtain rfl : s = [] := List.eq_nil_of_length_eq_zero (by omega)
    rw [enc_nil]
    simp
  | succ f ih =>
    intro s m acc n rest hf hm h0
    by_cases hs : s = []
    · subst hs
      rw [enc_nil]
      simp
    · have hl : 0 < s.length := List.length_pos_iff.2 hs
      have ht : (s.take k).length = min k s.length := List.length_take
      obtain ⟨q, hq⟩ : ∃ q, min k s.length = q := ⟨_, rfl⟩
      have hq0 : 0 < q := by omega
      have hqs : q ≤ s.length := by omega
      rw [enc_cons hk hs, hq]
      rw [hq] at ht
      obtain ⟨z1, z2, z3⟩ := size_text (n := q) (by omega)
      have e1 := feed_line (s := 0) (l := 0) (m := m) (by decide) (by decide) acc (s.take k ++ [13, 10] ++ encP k (s.drop k) ++ rest) (textN (q : Int) 16) [] n z2 (by simp only [List.length_nil]; omega) (by rw [List.nil_append, line_size hq0 (by omega) (by omega)])
      rw [List.nil_append, line_size hq0 (by omega) (by omega)] at e1
      have e2 := feed_body ([13, 10] ++ encP k (s.drop k) ++ rest) (s.take k) m acc (n + (textN (q : Int) 16).length + 2) (fun e => by rw [e] at ht; simp at ht; omega)
      rw [ht] at e2
      have e3 := feed_line (s := 2) (l := 0) (m := m + (q : Int)) (by decide) (by decide) (acc ++ s.take k) (encP k (s.drop k) ++ rest) [] [] (n + (textN (q : Int) 16).length + 2 + q) (fun b hb => by cases hb) (by simp) rfl
      have e4 := ih (s.drop k) (m + (q : Int)) (acc ++ s.take k) (n + (textN (q : Int) 16).length + 2 + q + 0 + 2) rest (by rw [List.length_drop]; omega) (by rw [List.length_drop]; omega) (by omega)
      have a1 : textN (q : Int) 16 ++ [13, 10] ++ s.take k ++ [13, 10] ++ encP k (s.drop k) ++ rest = textN (q : Int) 16 ++ 13 :: 10 :: (s.take k ++ [13, 10] ++ encP k (s.drop k) ++ rest) := by simp
      have a2 : s.take k ++ [13, 10] ++ encP k (s.drop k) ++ rest = s.take k ++ ([13, 10] ++ encP k (s.drop k) ++ rest) := by simp
      have a3 : [13, 10] ++ encP k (s.drop k) ++ rest = [] ++ 13 :: 10 :: (encP k (s.drop k) ++ rest) := by simp
      have a4 : lineC ⟨2, 0, [], m + (q : Int)⟩ ([] ++ []) = (⟨0, 0, [], m + (q : Int)⟩, 0) := rfl
      rw [a1, e1]
      simp only
      rw [a2, e2, a3, e3, a4]
      simp only [List.length_nil]
      have hdl : (s.drop k).length = s.length - k := List.length_drop
      have hA : m + (q : Int) + ((s.drop k).length : Int) = m + (s.length : Int) := by rw [hdl]; omega
      have hB : n + (textN (q : Int) 16).length + 2 + q + 0 + 2 + (encP k (s.drop k)).length = n + (textN (q : Int) 16 ++ [13, 10] ++ s.take k ++ [13, 10] ++ encP k (s.drop k)).length := by
        simp only [List.length_append, List.length_cons, List.length_nil, ht]
        omega
      rw [e4, hA, hB, List.append_assoc, List.take_append_drop]
theorem feed_back (k : Nat) (hk : 0 < k) (s more : Bs) (hs : s.length ≤ 4000) : feedC Ck.zero (encL k s ++ more) = (⟨4, 0, [], (s.length : Int)⟩, (encL k s).length, s, 0) := by
  have hok : okC Ck.zero := by decide
  have e : feedA Ck.zero [] 0 (encL k s ++ more) = (⟨4, 0, [], (s.length : Int)⟩, (encL k s).length, s, 0) := by
    have e1 := feed_enc k hk s.length s 0 [] 0 ([48, 13, 10, 13, 10] ++ more) (Nat.le_refl _) (by omega) (by decide)
    have a1 : encL k s ++ more = encP k s ++ ([48, 13, 10, 13, 10] ++ more) := by rw [encL, List.append_assoc]
    have e2 := feed_line (s := 0) (l := 0) (m := 0 + (s.length : Int)) (by decide) (by decide) ([] ++ s) (13 :: 10 :: more) [48] [] (0 + (encP k s).length) (by simp) (by simp) (by
      unfold lineC
      rw [if_pos rfl, show sizeN ([] ++ [48]) = (0, 0) from by decide +kernel, if_neg (by simp), if_neg (by simp only; omega)])
    have e3 := feed_line (s := 3) (l := 0) (m := 0 + (s.length : Int)) (by decide) (by decide) ([] ++ s) more [] [] (0 + (encP k s).length + 1 + 2) (fun b hb => by cases hb) (by simp) rfl
    have a2 : lineC ⟨0, 0, [], 0 + (s.length : Int)⟩ ([] ++ [48]) = (⟨3, 0, [], 0 + (s.length : Int)⟩, 0) := by
      unfold lineC
      rw [if_pos rfl, show sizeN ([] ++ [48]) = (0, 0) from by decide +kernel, if_neg (by simp), if_neg (by simp only; omega)]
      rfl
    have a3 : [48, 13, 10, 13, 10] ++ more = [48] ++ 13 :: 10 :: (13 :: 10 :: more) := by simp
    show feedA ⟨0, 0, [], 0⟩ [] 0 _ = _
    rw [a1, e1, a3, e2, a2]
    simp only [List.length_cons, List.length_nil]
    rw [show (13 :: 10 :: more : Bs) = [] ++ 13 :: 10 :: more from rfl, e3, show lineC ⟨3, 0, [], 0 + (s.length : Int)⟩ ([] ++ []) = (⟨4, 0, [], 0 + (s.length : Int)⟩, 0) from rfl]
    simp only
    rw [feed_end rfl]
    simp [encL]
  unfold feedC
  rw [if_pos hok, e]
  simp
end Go.Proofs.YtaoajilgilbmmaaDoor
