/-
  Lists alone: what each call of the header fields computes.
-/
import Derived.Lib.SlTrimSet
namespace Go.Proofs.YtnkhghjcfhpeiaaGreatDoor

abbrev Bs := List UInt8
def marks : Bs := [33, 35, 36, 37, 38, 39, 42, 43, 45, 46, 94, 95, 96, 124, 126]
def alnum (n : Nat) : Bool := decide (97 ≤ n ∧ n ≤ 122 ∨ 65 ≤ n ∧ n ≤ 90 ∨ 48 ≤ n ∧ n ≤ 57)
def nameC (c : UInt8) : Bool := alnum c.toNat || marks.contains c
def nameB (l : Bs) : Bool := decide (1 ≤ l.length) && decide (l.length ≤ 40) && l.all nameC
def valC (c : UInt8) : Bool := decide (c.toNat = 9 ∨ 32 ≤ c.toNat ∧ c.toNat ≤ 126)
def blks : Bs := [32, 9]
def bl (c : UInt8) : Bool := blks.contains c
def trimL (l : Bs) : Bs := Lib.trimS l blks
def valueB (l : Bs) : Bool := decide (l.length ≤ 200) && decide (trimL l = l) && l.all valC
def lowC (c : UInt8) : UInt8 := if 65 ≤ c.toNat ∧ c.toNat ≤ 90 then c + 32 else c
def lowerL (l : Bs) : Bs := l.map lowC
def befL (c : UInt8) (l : Bs) : Bs := l.takeWhile (· != c)
def aftL (c : UInt8) (l : Bs) : Bs := (l.dropWhile (· != c)).drop 1
def parse3 (l : Bs) : Bs × Bs × Int :=
  if l.contains 58 = true ∧ nameB (befL 58 l) = true ∧ valueB (trimL (aftL 58 l)) = true then (befL 58 l, trimL (aftL 58 l), 0) else ([], [], 21)
def splitA (acc : Bs) : Bs → List Bs
  | [] => [acc]
  | x :: r => if x = 44 then acc :: splitA [] r else splitA (acc ++ [x]) r
def itemsP (ps : List Bs) : List Bs := (ps.map fun p => lowerL (trimL p)).filter fun x => !x.isEmpty
def itemsL (l : Bs) : List Bs := itemsP (splitA [] l)

/-- from the end -/
def rdrop (l : Bs) : Bs := (l.reverse.dropWhile bl).reverse
theorem trim_eq (l : Bs) : trimL l = (rdrop l).dropWhile bl := rfl
theorem rdrop_nil : rdrop [] = [] := rfl
theorem rdrop_cons (x : UInt8) (l : Bs) : rdrop (x :: l) = if rdrop l = [] then (if bl x = true then [] else [x]) else x :: rdrop l := by
  unfold rdrop
  rw [List.reverse_cons, List.dropWhile_append]
  cases hd : l.reverse.dropWhile bl with
  | nil =>
    simp only [List.isEmpty_nil, ↓reduceIte, List.reverse_nil]
    cases hb : bl x <;> simp [List.dropWhile, hb]
  | cons a r => simp
theorem drop_idem (l : Bs) : (l.dropWhile bl).dropWhile bl = l.dropWhile bl := by
  induction l with
  | nil => rfl
  | cons x r ih =>
    cases hb : bl x with
    | true => rw [List.dropWhile_cons_of_pos hb]; exact ih
    | false => rw [List.dropWhile_cons_of_neg (by simp [hb]), List.dropWhile_cons_of_neg (by simp [hb])]
theorem rdrop_idem (l : Bs) : rdrop (rdrop l) = rdrop l := by
  unfold rdrop
  rw [List.reverse_reverse, drop_idem]
theorem comm (l : Bs) : (rdrop l).dropWhile bl = rdrop (l.dropWhile bl) := by
  induction l with
  | nil => rfl
  | cons x r ih =>
    cases hb : bl x with
    | true =>
      rw [List.dropWhile_cons_of_pos hb, ← ih, rdrop_cons]
      by_cases he : rdrop r = []
      · rw [if_pos he, if_pos hb, he]
      · rw [if_neg he, List.dropWhile_cons_of_pos hb]
    | false =>
      rw [List.dropWhile_cons_of_neg (by simp [hb]), rdrop_cons]
      by_cases he : rdrop r = []
      · rw [if_pos he, if_neg (by simp [hb]), List.dropWhile_cons_of_neg (by simp [hb])]
      · rw [if_neg he, List.dropWhile_cons_of_neg (by simp [hb])]
theorem trim_eq' (l : Bs) : trimL l = rdrop (l.dropWhile bl) := by rw [trim_eq, comm]
theorem trim_idem (l : Bs) : trimL (trimL l) = trimL l := by
  rw [trim_eq' (trimL l), trim_eq l, drop_idem, comm, rdrop_idem]
theorem trim_blank {x : UInt8} (h : bl x = true) (l : Bs) : trimL (x :: l) = trimL l := by
  rw [trim_eq', trim_eq', List.dropWhile_cons_of_pos h]
theorem trim_end {x : UInt8} (h : bl x = true) (l : Bs) : trimL (l ++ [x]) = trimL l := by
  rw [trim_eq, trim_eq]
  have : rdrop (l ++ [x]) = rdrop l := by
    unfold rdrop
    rw [List.reverse_append]
    show ((x :: l.reverse).dropWhile bl).reverse = _
    rw [List.dropWhile_cons_of_pos h]
  rw [this]
theorem dropWhile_len (p : UInt8 → Bool) (l : Bs) : (l.dropWhile p).length ≤ l.length := by
  induction l with
  | nil => simp
  | cons x r ih =>
    cases h : p x with
    | true => rw [List.dropWhile_cons_of_pos h]; simp; omega
    | false => rw [List.dropWhile_cons_of_neg (by simp [h])]; simp
theorem trim_len (l : Bs) : (trimL l).length ≤ l.length := by
  rw [trim_eq]
  refine Nat.le_trans (dropWhile_len _ _) ?_
  unfold rdrop
  rw [List.length_reverse]
  refine Nat.le_trans (dropWhile_len _ _) ?_
  simp

theorem low_len (l : Bs) : (lowerL l).length = l.length := by simp [lowerL]
theorem lowC_idem : ∀ c : UInt8, lowC (lowC c) = lowC c := by
  intro c
  have h : ∀ n : Fin 256, lowC (lowC (UInt8.ofNat n.1)) = lowC (UInt8.ofNat n.1) := by decide +kernel
  have := h ⟨c.toNat, c.toNat_lt⟩
  simpa using this
theorem lowC_bl : ∀ c : UInt8, bl (lowC c) = bl c := by
  intro c
  have h : ∀ n : Fin 256, bl (lowC (UInt8.ofNat n.1)) = bl (UInt8.ofNat n.1) := by decide +kernel
  have := h ⟨c.toNat, c.toNat_lt⟩
  simpa using this
theorem lowC_comma : ∀ c : UInt8, decide (lowC c = 44) = decide (c = 44) := by
  intro c
  have h : ∀ n : Fin 256, decide (lowC (UInt8.ofNat n.1) = 44) = decide (UInt8.ofNat n.1 = 44) := by decide +kernel
  have := h ⟨c.toNat, c.toNat_lt⟩
  simpa using this
theorem nameC_colon : nameC 58 = false := by decide +kernel
theorem lower_idem (l : Bs) : lowerL (lowerL l) = lowerL l := by
  unfold lowerL
  rw [List.map_map]
  exact List.map_congr_left fun c _ => lowC_idem c
theorem lower_drop (l : Bs) : (lowerL l).dropWhile bl = lowerL (l.dropWhile bl) := by
  induction l with
  | nil => rfl
  | cons x r ih =>
    show (lowC x :: lowerL r).dropWhile bl = _
    cases hb : bl x with
    | true => rw [List.dropWhile_cons_of_pos (a := lowC x) (by rw [lowC_bl]; exact hb), List.dropWhile_cons_of_pos hb, ih]
    | false =>
      have hl : ¬ bl (lowC x) = true := by rw [lowC_bl, hb]; exact Bool.false_ne_true
      rw [List.dropWhile_cons_of_neg hl, List.dropWhile_cons_of_neg (a := x) (by simp [hb])]
      rfl
theorem lower_rev (l : Bs) : (lowerL l).reverse = lowerL l.reverse := by simp [lowerL]
theorem trim_lower (l : Bs) : trimL (lowerL l) = lowerL (trimL l) := by
  rw [trim_eq, trim_eq]
  unfold rdrop
  rw [lower_rev, lower_drop, lower_rev, lower_drop]

theorem splitA_acc (acc l : Bs) : ∃ p ps, splitA [] l = p :: ps ∧ splitA acc l = (acc ++ p) :: ps := by
  induction l generalizing acc with
  | nil => exact ⟨[], [], rfl, by simp [splitA]⟩
  | cons x r ih =>
    by_cases h : x = 44
    · subst h
      exact ⟨[], splitA [] r, by simp [splitA], by simp [splitA]⟩
    · obtain ⟨p, ps, h1, h2⟩ := ih [x]
      obtain ⟨p', ps', h1', h2'⟩ := ih (acc ++ [x])
      rw [h1] at h1'
      obtain ⟨rfl, rfl⟩ := List.cons.inj h1'
      refine ⟨x :: p, ps, ?_, ?_⟩
      · rw [splitA, if_neg h, List.nil_append, h2]
        rfl
      · rw [splitA, if_neg h, h2']
        simp
theorem split_app (acc a b : Bs) : splitA acc (a ++ 44 :: b) = splitA acc a ++ splitA [] b := by
  induction a generalizing acc with
  | nil => simp [splitA]
  | cons x r ih =>
    by_cases h : x = 44
    · subst h
      simp [splitA, ih]
    · rw [List.cons_append, splitA, if_neg h, splitA, if_neg h, ih]
theorem itemsP_app (p q : List Bs) : itemsP (p ++ q) = itemsP p ++ itemsP q := by simp [itemsP]
theorem items_app (a b : Bs) : itemsL (a ++ 44 :: b) = itemsL a ++ itemsL b := by
  unfold itemsL
  rw [split_app, itemsP_app]
theorem split_lower (acc l : Bs) : splitA (lowerL acc) (lowerL l) = (splitA acc l).map lowerL := by
  induction l generalizing acc with
  | nil => rfl
  | cons x r ih =>
    show splitA (lowerL acc) (lowC x :: lowerL r) = _
    have hx := lowC_comma x
    by_cases h : x = 44
    · rw [decide_eq_true h, decide_eq_true_eq] at hx
      rw [splitA, if_pos hx, splitA, if_pos h]
      show _ :: splitA (lowerL []) (lowerL r) = _
      rw [ih]
      rfl
    · rw [decide_eq_false h, decide_eq_false_iff_not] at hx
      rw [splitA, if_neg hx, splitA, if_neg h, ← ih]
      simp [lowerL]
theorem items_lower (l : Bs) : itemsL (lowerL l) = itemsL l := by
  unfold itemsL
  have := split_lower [] l
  rw [show lowerL [] = [] from rfl] at this
  rw [this]
  unfold itemsP
  rw [List.map_map]
  congr 1
  refine List.map_congr_left fun p _ => ?_
  show lowerL (trimL (lowerL p)) = _
  rw [trim_lower, lower_idem]
theorem itemsP_cons (p : Bs) (ps : List Bs) : itemsP (p :: ps) = itemsP [p] ++ itemsP ps := itemsP_app [p] ps
theorem items_blank {x : UInt8} (h : bl x = true) (l : Bs) : itemsL (x :: l) = itemsL l := by
  obtain ⟨p, ps, h1, h2⟩ := splitA_acc [x] l
  have hx : x ≠ 44 := by rintro rfl; revert h; decide
  unfold itemsL
  rw [splitA, if_neg hx, List.nil_append, h2, h1, itemsP_cons, itemsP_cons p]
  congr 1
  unfold itemsP
  simp only [List.map_cons, List.cons_append, List.nil_append, trim_blank h]
theorem split_end {x : UInt8} (hx : x ≠ 44) (acc l : Bs) : ∃ ps p, splitA acc l = ps ++ [p] ∧ splitA acc (l ++ [x]) = ps ++ [p ++ [x]] := by
  induction l generalizing acc with
  | nil => exact ⟨[], acc, rfl, by simp [splitA, hx]⟩
  | cons y r ih =>
    by_cases h : y = 44
    · obtain ⟨ps, p, h1, h2⟩ := ih []
      refine ⟨acc :: ps, p, ?_, ?_⟩
      · rw [splitA, if_pos h, h1]; rfl
      · rw [List.cons_append, splitA, if_pos h, h2]; rfl
    · obtain ⟨ps, p, h1, h2⟩ := ih (acc ++ [y])
      refine ⟨ps, p, ?_, ?_⟩
      · rw [splitA, if_neg h, h1]
      · rw [List.cons_append, splitA, if_neg h, h2]
theorem items_end {x : UInt8} (h : bl x = true) (l : Bs) : itemsL (l ++ [x]) = itemsL l := by
  have hx : x ≠ 44 := by rintro rfl; revert h; decide
  obtain ⟨ps, p, h1, h2⟩ := split_end hx [] l
  unfold itemsL
  rw [h1, h2, itemsP_app, itemsP_app]
  congr 1
  unfold itemsP
  simp only [List.map_cons, List.map_nil, trim_end h]
theorem items_dw (l : Bs) : itemsL (l.dropWhile bl) = itemsL l := by
  induction l with
  | nil => rfl
  | cons x r ih =>
    cases hb : bl x with
    | true => rw [List.dropWhile_cons_of_pos hb, ih, items_blank hb]
    | false => rw [List.dropWhile_cons_of_neg (by simp [hb])]
theorem items_rdw (l : Bs) : itemsL (l.dropWhile bl).reverse = itemsL l.reverse := by
  induction l with
  | nil => rfl
  | cons x r ih =>
    cases hb : bl x with
    | true => rw [List.dropWhile_cons_of_pos hb, ih, List.reverse_cons, items_end hb]
    | false => rw [List.dropWhile_cons_of_neg (by simp [hb])]
theorem items_trim (l : Bs) : itemsL (trimL l) = itemsL l := by
  rw [trim_eq, items_dw]
  unfold rdrop
  rw [items_rdw, List.reverse_reverse]

theorem bef_app {a : Bs} (h : ∀ c ∈ a, c ≠ 58) (r : Bs) : befL 58 (a ++ 58 :: r) = a ∧ aftL 58 (a ++ 58 :: r) = r := by
  induction a with
  | nil => exact ⟨by simp [befL], by simp [aftL]⟩
  | cons x a ih =>
    have hx : (x != 58) = true := by simpa using h x (by simp)
    obtain ⟨h1, h2⟩ := ih fun c hc => h c (by simp [hc])
    constructor
    · unfold befL at h1 ⊢
      rw [List.cons_append, List.takeWhile_cons_of_pos (p := (· != _)) hx, h1]
    · unfold aftL at h2 ⊢
      rw [List.cons_append, List.dropWhile_cons_of_pos (p := (· != _)) hx, h2]
theorem name_colon {a : Bs} (h : nameB a = true) : ∀ c ∈ a, c ≠ 58 := by
  intro c hc he
  subst he
  unfold nameB at h
  simp only [Bool.and_eq_true, List.all_eq_true] at h
  have := h.2 58 hc
  rw [nameC_colon] at this
  cases this
theorem value_trim {v : Bs} (h : valueB v = true) : trimL v = v := by
  unfold valueB at h
  simp only [Bool.and_eq_true, decide_eq_true_eq] at h
  exact h.1.2
theorem value_len {v : Bs} (h : valueB v = true) : v.length ≤ 200 := by
  unfold valueB at h
  simp only [Bool.and_eq_true, decide_eq_true_eq] at h
  exact h.1.1
theorem name_len {v : Bs} (h : nameB v = true) : v.length ≤ 40 := by
  unfold nameB at h
  simp only [Bool.and_eq_true, decide_eq_true_eq] at h
  exact h.1.2
/-- E6 -/
theorem parse_back {n v : Bs} (hn : nameB n = true) (hv : valueB v = true) : parse3 (n ++ 58 :: 32 :: v) = (n, v, 0) := by
  obtain ⟨h1, h2⟩ := bef_app (name_colon hn) (32 :: v)
  have h3 : trimL (32 :: v) = v := by rw [trim_blank (by decide)]; exact value_trim hv
  unfold parse3
  rw [h1, h2, h3, if_pos ⟨by simp, hn, hv⟩]
theorem parse_cases (l : Bs) : (∃ n v, parse3 l = (n, v, 0) ∧ nameB n = true ∧ valueB v = true) ∨ parse3 l = ([], [], 21) := by
  unfold parse3
  split
  · next h => exact .inl ⟨_, _, rfl, h.2.1, h.2.2⟩
  · exact .inr rfl

/-- the parts, one after the other -/
theorem split_cut (l : Bs) : splitA [] l = if l.contains 44 = true then befL 44 l :: splitA [] (aftL 44 l) else [l] := by
  have key : ∀ acc, splitA acc l = if l.contains 44 = true then (acc ++ befL 44 l) :: splitA [] (aftL 44 l) else [acc ++ l] := by
    induction l with
    | nil => intro acc; simp [splitA]
    | cons x r ih =>
      intro acc
      by_cases h : x = 44
      · subst h
        simp [splitA, befL, aftL]
      · have hx : (x != 44) = true := by simpa using h
        have hc : (x :: r).contains 44 = r.contains 44 := by
          rw [List.contains_cons]
          have : ((44 : UInt8) == x) = false := by
            rw [beq_eq_false_iff_ne]
            exact fun e => h e.symm
          rw [this, Bool.false_or]
        have e1 : befL 44 (x :: r) = x :: befL 44 r := by unfold befL; rw [List.takeWhile_cons_of_pos (p := (· != _)) hx]
        have e2 : aftL 44 (x :: r) = aftL 44 r := by unfold aftL; rw [List.dropWhile_cons_of_pos (p := (· != _)) hx]
        rw [splitA, if_neg h, ih, hc, e1, e2]
        simp
  simpa using key []
theorem aft_len (c : UInt8) (l : Bs) (h : l.contains c = true) : (aftL c l).length < l.length := by
  unfold aftL
  induction l with
  | nil => simp at h
  | cons x r ih =>
    by_cases hx : x = c
    · subst hx
      simp
    · have hp : (x != c) = true := by simpa using hx
      rw [List.dropWhile_cons_of_pos (p := (· != _)) hp]
      have hc : r.contains c = true := by
        rw [List.contains_cons] at h
        have : (c == x) = false := by rw [beq_eq_false_iff_ne]; exact fun e => hx e.symm
        rw [this, Bool.false_or] at h
        exact h
      have := ih hc
      simp only [List.length_cons]
      omega
theorem bef_len (c : UInt8) (l : Bs) : (befL c l).length ≤ l.length := by
  unfold befL
  induction l with
  | nil => simp
  | cons x r ih =>
    cases h : x != c with
    | true => rw [List.takeWhile_cons_of_pos (p := (· != _)) h]; simp; omega
    | false => rw [List.takeWhile_cons_of_neg (p := (· != _)) (by simp [h])]; simp
theorem split_len (acc l : Bs) : (splitA acc l).length ≤ l.length + 1 := by
  induction l generalizing acc with
  | nil => simp [splitA]
  | cons x r ih =>
    by_cases h : x = 44
    · rw [splitA, if_pos h]
      have := ih []
      simp
      omega
    · rw [splitA, if_neg h]
      have := ih (acc ++ [x])
      simp
      omega
theorem items_len (l : Bs) : (itemsL l).length ≤ l.length + 1 := by
  unfold itemsL itemsP
  refine Nat.le_trans (List.length_filter_le _ _) ?_
  rw [List.length_map]
  exact split_len _ _

/-- what the place of the first c tells -/
theorem cut_at {c : UInt8} {l : Bs} {k : Nat} (hk : l[k]? = some c) (hn : ∀ j, j < k → l[j]? ≠ some c) : befL c l = l.take k ∧ aftL c l = l.drop (k + 1) ∧ l.contains c = true := by
  induction l generalizing k with
  | nil => simp at hk
  | cons x r ih =>
    cases k with
    | zero =>
      simp at hk
      subst hk
      simp [befL, aftL]
    | succ k =>
      have hx : x ≠ c := by
        intro e
        exact hn 0 (by omega) (by simp [e])
      have hp : (x != c) = true := by simpa using hx
      obtain ⟨h1, h2, h3⟩ := ih (k := k) (by simpa using hk) (fun j hj => by have := hn (j + 1) (by omega); simpa using this)
      refine ⟨?_, ?_, ?_⟩
      · unfold befL at h1 ⊢
        rw [List.takeWhile_cons_of_pos (p := (· != _)) hp, h1]
        rfl
      · unfold aftL at h2 ⊢
        rw [List.dropWhile_cons_of_pos (p := (· != _)) hp, h2]
        rfl
      · rw [List.contains_cons, h3, Bool.or_true]
theorem cut_none {c : UInt8} {l : Bs} (hn : ∀ j, j < l.length → l[j]? ≠ some c) : befL c l = l ∧ aftL c l = [] ∧ l.contains c = false := by
  induction l with
  | nil => simp [befL, aftL]
  | cons x r ih =>
    have hx : x ≠ c := by
      intro e
      exact hn 0 (by simp) (by simp [e])
    have hp : (x != c) = true := by simpa using hx
    obtain ⟨h1, h2, h3⟩ := ih (fun j hj => by have := hn (j + 1) (by simpa using hj); simpa using this)
    refine ⟨?_, ?_, ?_⟩
    · unfold befL at h1 ⊢
      rw [List.takeWhile_cons_of_pos (p := (· != _)) hp, h1]
    · unfold aftL at h2 ⊢
      rw [List.dropWhile_cons_of_pos (p := (· != _)) hp, h2]
    · rw [List.contains_cons, h3, Bool.or_false]
      exact beq_eq_false_iff_ne.2 fun e => hx e.symm

end Go.Proofs.YtnkhghjcfhpeiaaGreatDoor

/-
  Texts in JSON as lists alone: characters, what is quoted, what a literal stands for.
-/
namespace Go.Proofs.YtnkhghjcfhpeiaaGreatDoor

/-- is a byte one behind the first one of a character? -/
def contB (b : UInt8) : Bool := decide (128 ≤ b.toNat) && decide (b.toNat ≤ 191)
def cp3 (a b c : UInt8) : Nat := a.toNat % 16 * 4096 + b.toNat % 64 * 64 + c.toNat % 64
def cp4 (a b c d : UInt8) : Nat := a.toNat % 8 * 262144 + b.toNat % 64 * 4096 + c.toNat % 64 * 64 + d.toNat % 64
/-- how many bytes a character has that begins so -/
def need (a : UInt8) : Nat := if a.toNat < 128 then 1 else if a.toNat < 194 then 0 else if a.toNat < 224 then 2 else if a.toNat < 240 then 3 else if a.toNat < 245 then 4 else 0
/-- are these the bytes of one character? -/
def charB : Bs → Bool
  | [a] => decide (a.toNat < 128)
  | [a, b] => decide (194 ≤ a.toNat) && decide (a.toNat < 224) && contB b
  | [a, b, c] => decide (224 ≤ a.toNat) && decide (a.toNat < 240) && contB b && contB c && decide (2048 ≤ cp3 a b c) && (decide (cp3 a b c < 55296) || decide (57343 < cp3 a b c))
  | [a, b, c, d] => decide (240 ≤ a.toNat) && decide (a.toNat < 245) && contB b && contB c && contB d && decide (65536 ≤ cp4 a b c d) && decide (cp4 a b c d ≤ 1114111)
  | _ => false
/-- how many bytes a text's first character has; 0: there is none -/
def wid (l : Bs) : Nat := match l with | [] => 0 | a :: t => if charB ((a :: t).take (need a)) = true then need a else 0

theorem char_need {ch : Bs} (h : charB ch = true) : ∃ a t, ch = a :: t ∧ need a = ch.length := by
  unfold charB at h
  split at h
  · rename_i a
    exact ⟨a, [], rfl, by unfold need; rw [if_pos (by simpa using h)]; rfl⟩
  · rename_i a b
    simp only [Bool.and_eq_true, decide_eq_true_eq] at h
    exact ⟨a, [b], rfl, by unfold need; rw [if_neg (by omega), if_neg (by omega), if_pos (by omega)]; rfl⟩
  · rename_i a b c
    simp only [Bool.and_eq_true, decide_eq_true_eq] at h
    exact ⟨a, [b, c], rfl, by unfold need; rw [if_neg (by omega), if_neg (by omega), if_neg (by omega), if_pos (by omega)]; rfl⟩
  · rename_i a b c d
    simp only [Bool.and_eq_true, decide_eq_true_eq] at h
    exact ⟨a, [b, c, d], rfl, by unfold need; rw [if_neg (by omega), if_neg (by omega), if_neg (by omega), if_neg (by omega), if_pos (by omega)]; rfl⟩
  · cases h
theorem char_pos {ch : Bs} (h : charB ch = true) : 0 < ch.length := by
  obtain ⟨a, t, rfl, _⟩ := char_need h
  simp
theorem wid_char {ch : Bs} (h : charB ch = true) (r : Bs) : wid (ch ++ r) = ch.length := by
  obtain ⟨a, t, rfl, hn⟩ := char_need h
  show (if charB ((a :: (t ++ r)).take (need a)) = true then need a else 0) = _
  have e : (a :: (t ++ r)).take (need a) = a :: t := by
    rw [hn, show a :: (t ++ r) = (a :: t) ++ r from rfl, List.take_left]
  rw [e, if_pos h, hn]
theorem wid_split {l : Bs} (h : wid l ≠ 0) : charB (l.take (wid l)) = true ∧ wid l ≤ l.length := by
  match l with
  | [] => exact absurd rfl h
  | a :: t =>
    have e : wid (a :: t) = if charB ((a :: t).take (need a)) = true then need a else 0 := rfl
    rw [e] at h ⊢
    by_cases hc : charB ((a :: t).take (need a)) = true
    · rw [if_pos hc] at h ⊢
      refine ⟨hc, ?_⟩
      obtain ⟨a', t', h1, h2⟩ := char_need hc
      have h3 : a' = a := by
        obtain ⟨n, hn⟩ : ∃ n, need a = n + 1 := ⟨need a - 1, by omega⟩
        rw [hn, List.take_succ_cons] at h1
        exact (List.cons.inj h1).1.symm
      rw [h3, List.length_take] at h2
      omega
    · rw [if_neg hc] at h
      exact absurd rfl h

/-- texts of characters -/
inductive VL : Bs → Prop
  | nil : VL []
  | cons (ch r : Bs) : charB ch = true → VL r → VL (ch ++ r)
theorem VL.app {a b : Bs} (ha : VL a) (hb : VL b) : VL (a ++ b) := by
  induction ha with
  | nil => exact hb
  | cons ch r h _ ih => rw [List.append_assoc]; exact .cons ch _ h ih
theorem VL.one {ch : Bs} (h : charB ch = true) : VL ch := by
  have := VL.cons ch [] h .nil
  rwa [List.append_nil] at this
/-- is a text one of characters? -/
def validF : Nat → Bs → Bool
  | _, [] => true
  | 0, _ :: _ => false
  | n + 1, c :: t => if wid (c :: t) = 0 then false else validF n ((c :: t).drop (wid (c :: t)))
def validL (l : Bs) : Bool := validF l.length l
theorem validF_iff : ∀ (n : Nat) (l : Bs), l.length ≤ n → (validF n l = true ↔ VL l) := by
  intro n
  induction n with
  | zero =>
    intro l hl
    obtain rfl : l = [] := List.eq_nil_of_length_eq_zero (by omega)
    exact ⟨fun _ => .nil, fun _ => rfl⟩
  | succ n ih =>
    intro l hl
    match l with
    | [] => exact ⟨fun _ => .nil, fun _ => rfl⟩
    | c :: t =>
      rw [validF]
      by_cases h0 : wid (c :: t) = 0
      · rw [if_pos h0]
        refine ⟨fun h => (by cases h), fun h => ?_⟩
        exfalso
        obtain ⟨l', hl'⟩ : ∃ l', c :: t = l' := ⟨_, rfl⟩
        rw [hl'] at h h0
        cases h with
        | nil => cases hl'
        | cons ch r hc _ =>
          rw [wid_char hc] at h0
          have := char_pos hc
          omega
      · rw [if_neg h0]
        obtain ⟨h1, h2⟩ := wid_split h0
        have h3 : ((c :: t).drop (wid (c :: t))).length ≤ n := by
          rw [List.length_drop]
          simp only [List.length_cons] at hl ⊢
          omega
        rw [ih _ h3]
        refine ⟨fun h => ?_, fun h => ?_⟩
        · have := VL.cons _ _ h1 h
          rwa [List.take_append_drop] at this
        · obtain ⟨l', hl'⟩ : ∃ l', c :: t = l' := ⟨_, rfl⟩
          rw [hl'] at h ⊢
          cases h with
          | nil => cases hl'
          | cons ch r hc hr =>
            rw [wid_char hc, List.drop_left]
            exact hr
theorem valid_iff (l : Bs) : validL l = true ↔ VL l := validF_iff _ _ (Nat.le_refl _)

/-- a digit's byte, to the base 16 -/
def hexC (d : Nat) : UInt8 := if d < 10 then UInt8.ofNat (48 + d) else UInt8.ofNat (87 + d)
/-- the value of such a byte -/
def hexV (c : UInt8) : Option Nat := if 48 ≤ c.toNat ∧ c.toNat ≤ 57 then some (c.toNat - 48) else if 97 ≤ c.toNat ∧ c.toNat ≤ 102 then some (c.toNat - 87) else if 65 ≤ c.toNat ∧ c.toNat ≤ 70 then some (c.toNat - 55) else none
theorem hexV_C : ∀ d : Fin 16, hexV (hexC d.1) = some d.1 := by decide +kernel
theorem hexV_lt {c : UInt8} {n : Nat} (h : hexV c = some n) : n < 16 := by
  unfold hexV at h
  split at h
  · simp only [Option.some.injEq] at h; omega
  · split at h
    · simp only [Option.some.injEq] at h; omega
    · split at h
      · simp only [Option.some.injEq] at h; omega
      · cases h
/-- the number of the four digits that a text begins with -/
def hex4 : Bs → Option Nat
  | a :: b :: c :: d :: _ => match hexV a, hexV b, hexV c, hexV d with
    | some x, some y, some z, some u => some (((x * 16 + y) * 16 + z) * 16 + u)
    | _, _, _, _ => none
  | _ => none
theorem hex4_lt {l : Bs} {n : Nat} (h : hex4 l = some n) : n < 65536 ∧ 4 ≤ l.length := by
  unfold hex4 at h
  split at h
  · split at h
    · rename_i _ _ _ _ h1 h2 h3 h4
      simp only [Option.some.injEq] at h
      have := hexV_lt h1
      have := hexV_lt h2
      have := hexV_lt h3
      have := hexV_lt h4
      simp only [List.length_cons]
      omega
    · cases h
  · cases h
/-- a character's bytes -/
def encU (n : Nat) : Bs :=
  if n < 128 then [UInt8.ofNat n]
  else if n < 2048 then [UInt8.ofNat (192 + n / 64), UInt8.ofNat (128 + n % 64)]
  else if n < 65536 then [UInt8.ofNat (224 + n / 4096), UInt8.ofNat (128 + n / 64 % 64), UInt8.ofNat (128 + n % 64)]
  else [UInt8.ofNat (240 + n / 262144), UInt8.ofNat (128 + n / 4096 % 64), UInt8.ofNat (128 + n / 64 % 64), UInt8.ofNat (128 + n % 64)]
theorem nat8 {n : Nat} (h : n < 256) : (UInt8.ofNat n).toNat = n := UInt8.toNat_ofNat_of_lt' h
theorem charB3 (a b c : UInt8) : charB [a, b, c] = (decide (224 ≤ a.toNat) && decide (a.toNat < 240) && contB b && contB c && decide (2048 ≤ cp3 a b c) && (decide (cp3 a b c < 55296) || decide (57343 < cp3 a b c))) := rfl
theorem charB4 (a b c d : UInt8) : charB [a, b, c, d] = (decide (240 ≤ a.toNat) && decide (a.toNat < 245) && contB b && contB c && contB d && decide (65536 ≤ cp4 a b c d) && decide (cp4 a b c d ≤ 1114111)) := rfl
theorem byte_of {n : Nat} (h : n < 256) : ∃ a : UInt8, UInt8.ofNat n = a ∧ a.toNat = n := ⟨_, rfl, nat8 h⟩
theorem enc_char {n : Nat} (h1 : n < 1114112) (h2 : n < 55296 ∨ 57343 < n) : charB (encU n) = true ∧ (encU n).length ≤ 4 := by
  unfold encU
  by_cases c1 : n < 128
  · rw [if_pos c1]
    obtain ⟨a, ea, ha⟩ := byte_of (n := n) (by omega)
    rw [ea]
    exact ⟨decide_eq_true (by omega), by simp⟩
  · rw [if_neg c1]
    by_cases c2 : n < 2048
    · rw [if_pos c2]
      obtain ⟨a, ea, ha⟩ := byte_of (n := 192 + n / 64) (by omega)
      obtain ⟨b, eb, hb⟩ := byte_of (n := 128 + n % 64) (by omega)
      rw [ea, eb]
      refine ⟨?_, by simp⟩
      unfold charB contB
      rw [Bool.and_eq_true, Bool.and_eq_true, Bool.and_eq_true]
      exact ⟨⟨decide_eq_true (by omega), decide_eq_true (by omega)⟩, decide_eq_true (by omega), decide_eq_true (by omega)⟩
    · rw [if_neg c2]
      by_cases c3 : n < 65536
      · rw [if_pos c3]
        obtain ⟨a, ea, ha⟩ := byte_of (n := 224 + n / 4096) (by omega)
        obtain ⟨b, eb, hb⟩ := byte_of (n := 128 + n / 64 % 64) (by omega)
        obtain ⟨c, ec, hc⟩ := byte_of (n := 128 + n % 64) (by omega)
        rw [ea, eb, ec]
        have hcp : cp3 a b c = n := by unfold cp3; omega
        refine ⟨?_, by simp⟩
        rw [charB3, hcp]
        unfold contB
        rw [Bool.and_eq_true, Bool.or_eq_true, Bool.and_eq_true, Bool.and_eq_true, Bool.and_eq_true, Bool.and_eq_true, Bool.and_eq_true, Bool.and_eq_true]
        refine ⟨⟨⟨⟨⟨decide_eq_true (by omega), decide_eq_true (by omega)⟩, decide_eq_true (by omega), decide_eq_true (by omega)⟩, decide_eq_true (by omega), decide_eq_true (by omega)⟩, decide_eq_true (by omega)⟩, ?_⟩
        rcases h2 with h2 | h2
        · exact .inl (decide_eq_true h2)
        · exact .inr (decide_eq_true h2)
      · rw [if_neg c3]
        obtain ⟨a, ea, ha⟩ := byte_of (n := 240 + n / 262144) (by omega)
        obtain ⟨b, eb, hb⟩ := byte_of (n := 128 + n / 4096 % 64) (by omega)
        obtain ⟨c, ec, hc⟩ := byte_of (n := 128 + n / 64 % 64) (by omega)
        obtain ⟨d, ed, hd⟩ := byte_of (n := 128 + n % 64) (by omega)
        rw [ea, eb, ec, ed]
        have hcp : cp4 a b c d = n := by unfold cp4; omega
        refine ⟨?_, by simp⟩
        rw [charB4, hcp]
        unfold contB
        simp only [Bool.and_eq_true]
        exact ⟨⟨⟨⟨⟨⟨decide_eq_true (by omega), decide_eq_true (by omega)⟩, decide_eq_true (by omega), decide_eq_true (by omega)⟩, decide_eq_true (by omega), decide_eq_true (by omega)⟩, decide_eq_true (by omega), decide_eq_true (by omega)⟩, decide_eq_true (by omega)⟩, decide_eq_true (by omega)⟩
/-- what an escape of one byte stands for -/
def escC (e : UInt8) : Option UInt8 := if e = 34 then some 34 else if e = 92 then some 92 else if e = 47 then some 47 else if e = 98 then some 8 else if e = 102 then some 12 else if e = 110 then some 10 else if e = 114 then some 13 else if e = 116 then some 9 else none
/-- what an escape stands for, and its bytes, behind the backslash; 0 bytes: there is none -/
def escL : Bs → Bs × Nat
  | [] => ([], 0)
  | e :: r => match escC e with
    | some c => ([c], 1)
    | none => if e = 117 then (match hex4 r with
      | none => ([], 0)
      | some n => if 56320 ≤ n ∧ n ≤ 57343 then ([], 0) else if n < 55296 ∨ 56319 < n then (encU n, 5)
        else if (r.drop 4).take 2 = [92, 117] then (match hex4 (r.drop 6) with
          | none => ([], 0)
          | some m => if 56320 ≤ m ∧ m ≤ 57343 then (encU (65536 + (n - 55296) * 1024 + (m - 56320)), 11) else ([], 0)) else ([], 0)) else ([], 0)
theorem escC_lt {e c : UInt8} (h : escC e = some c) : c.toNat < 128 := by
  unfold escC at h
  repeat' split at h
  all_goals first | (cases h; decide) | cases h
theorem esc_good {l : Bs} {x : Bs} {n : Nat} (h : escL l = (x, n)) (hn : n ≠ 0) : VL x ∧ x.length ≤ n ∧ n ≤ l.length := by
  unfold escL at h
  split at h
  · exact absurd (Prod.mk.inj h).2.symm hn
  · rename_i e r
    split at h
    · rename_i c hc
      obtain ⟨rfl, rfl⟩ := Prod.mk.inj h
      exact ⟨.one (by simpa [charB] using escC_lt hc), by simp, by simp⟩
    · split at h
      · split at h
        · exact absurd (Prod.mk.inj h).2.symm hn
        · rename_i n1 h4
          have hl := hex4_lt h4
          split at h
          · exact absurd (Prod.mk.inj h).2.symm hn
          · split at h
            · rename_i q1 q2
              obtain ⟨rfl, rfl⟩ := Prod.mk.inj h
              have := enc_char (n := n1) (by omega) (by omega)
              exact ⟨.one this.1, by omega, by simp only [List.length_cons]; omega⟩
            · split at h
              · split at h
                · exact absurd (Prod.mk.inj h).2.symm hn
                · rename_i m h6
                  have hl6 := hex4_lt h6
                  rw [List.length_drop] at hl6
                  split at h
                  · obtain ⟨rfl, rfl⟩ := Prod.mk.inj h
                    have := enc_char (n := 65536 + (n1 - 55296) * 1024 + (m - 56320)) (by omega) (by omega)
                    exact ⟨.one this.1, by omega, by simp only [List.length_cons]; omega⟩
                  · exact absurd (Prod.mk.inj h).2.symm hn
              · exact absurd (Prod.mk.inj h).2.symm hn
      · exact absurd (Prod.mk.inj h).2.symm hn

/-- K3, behind the first byte: what was read, where, and what is left -/
def unqF : Nat → Bs → Nat → Bs → Bs × Nat × Int
  | _, _, i, [] => ([], i, 30)
  | 0, _, i, _ :: _ => ([], i, 30)
  | f + 1, out, i, c :: t =>
    if c = 34 then (out, i + 1, 0)
    else if c = 92 then (if (escL t).2 = 0 then ([], i, 30) else unqF f (out ++ (escL t).1) (i + 1 + (escL t).2) (t.drop (escL t).2))
    else if wid (c :: t) = 0 ∨ c.toNat < 32 then ([], i, 30) else unqF f (out ++ (c :: t).take (wid (c :: t))) (i + wid (c :: t)) ((c :: t).drop (wid (c :: t)))
/-- K3 -/
def unqL : Bs → Bs × Nat × Int
  | [] => ([], 0, 30)
  | c :: t => if c = 34 then unqF t.length [] 1 t else ([], 0, 30)
/-- what is told is valid, and no longer than it was -/
theorem unqF_good (N : Nat) : ∀ (f : Nat) (out : Bs) (i : Nat) (l : Bs), VL out → out.length + 1 ≤ i → i + l.length = N →
    (unqF f out i l).2.1 ≤ N ∧ ((unqF f out i l).2.2 ≠ 0 → (unqF f out i l).1 = [] ∧ (unqF f out i l).2.2 = 30) ∧ ((unqF f out i l).2.2 = 0 → VL (unqF f out i l).1 ∧ (unqF f out i l).1.length + 2 ≤ (unqF f out i l).2.1) := by
  intro f
  induction f with
  | zero =>
    intro out i l _ _ hN
    match l with
    | [] => exact ⟨by simp only [unqF]; simp at hN; omega, fun _ => ⟨rfl, rfl⟩, fun h => by simp [unqF] at h⟩
    | c :: t => exact ⟨by simp only [unqF]; omega, fun _ => ⟨rfl, rfl⟩, fun h => by simp [unqF] at h⟩
  | succ f ih =>
    intro out i l hv hl hN
    match l with
    | [] => exact ⟨by simp only [unqF]; simp at hN; omega, fun _ => ⟨rfl, rfl⟩, fun h => by simp [unqF] at h⟩
    | c :: t =>
      simp only [List.length_cons] at hN
      rw [unqF]
      split
      · exact ⟨by simp only; omega, fun h => absurd rfl h, fun _ => ⟨hv, by simp only; omega⟩⟩
      · split
        · split
          · exact ⟨by simp only; omega, fun _ => ⟨rfl, rfl⟩, fun h => by cases h⟩
          · rename_i h0
            obtain ⟨g1, g2, g3⟩ := esc_good (l := t) (x := (escL t).1) (n := (escL t).2) rfl h0
            exact ih _ _ _ (hv.app g1) (by rw [List.length_append]; omega) (by rw [List.length_drop]; omega)
        · split
          · exact ⟨by simp only; omega, fun _ => ⟨rfl, rfl⟩, fun h => by cases h⟩
          · rename_i h0
            have h1 : wid (c :: t) ≠ 0 := fun h => h0 (.inl h)
            obtain ⟨g1, g2⟩ := wid_split h1
            simp only [List.length_cons] at g2
            exact ih _ _ _ (hv.app (.one g1)) (by rw [List.length_append, List.length_take]; omega) (by rw [List.length_drop]; simp only [List.length_cons]; omega)
theorem unq_good (l : Bs) : (unqL l).2.1 ≤ l.length ∧ ((unqL l).2.2 ≠ 0 → (unqL l).1 = [] ∧ (unqL l).2.2 = 30) ∧ ((unqL l).2.2 = 0 → validL (unqL l).1 = true ∧ (unqL l).1.length + 2 ≤ (unqL l).2.1) := by
  match l with
  | [] => exact ⟨Nat.le_refl _, fun _ => ⟨rfl, rfl⟩, fun h => by simp [unqL] at h⟩
  | c :: t =>
    rw [unqL]
    split
    · have := unqF_good (t.length + 1) t.length [] 1 t .nil (by simp) (by omega)
      exact ⟨by simp only [List.length_cons]; omega, this.2.1, fun h => ⟨(valid_iff _).2 (this.2.2 h).1, (this.2.2 h).2⟩⟩
    · exact ⟨Nat.zero_le _, fun _ => ⟨rfl, rfl⟩, fun h => by cases h⟩

/-- K2: a byte -/
def qb (c : UInt8) : Bs := if c = 34 then [92, 34] else if c = 92 then [92, 92] else if c = 10 then [92, 110] else if c = 13 then [92, 114] else if c = 9 then [92, 116] else if c.toNat < 32 then [92, 117, 48, 48, hexC (c.toNat / 16), hexC (c.toNat % 16)] else [c]
def quoteL (s : Bs) : Bs := 34 :: (s.flatMap qb ++ [34])
/-- K2 -/
def quoteQ (s : Bs) : Bs × Int := if validL s = true then (quoteL s, 0) else ([], 30)
theorem esc_ctl {a : UInt8} (h : a.toNat < 32) (r : Bs) : escL (117 :: 48 :: 48 :: hexC (a.toNat / 16) :: hexC (a.toNat % 16) :: r) = ([a], 5) := by
  have h1 := hexV_C ⟨a.toNat / 16, by omega⟩
  have h2 := hexV_C ⟨a.toNat % 16, by omega⟩
  simp only at h1 h2
  have h3 : hex4 (48 :: 48 :: hexC (a.toNat / 16) :: hexC (a.toNat % 16) :: r) = some a.toNat := by
    have e0 : hexV 48 = some 0 := by decide
    simp only [hex4, h1, h2, e0]
    congr 1
    omega
  have h4 : escC 117 = none := by decide
  have h5 : encU a.toNat = [a] := by
    unfold encU
    rw [if_pos (by omega), UInt8.ofNat_toNat]
  simp only [escL, h4, h3, if_true]
  rw [if_neg (by omega), if_pos (by omega), h5]
theorem qb_big {b : UInt8} (h : 128 ≤ b.toNat) : qb b = [b] := by
  unfold qb
  rw [if_neg (by rintro rfl; exact absurd h (by decide)), if_neg (by rintro rfl; exact absurd h (by decide)), if_neg (by rintro rfl; exact absurd h (by decide)), if_neg (by rintro rfl; exact absurd h (by decide)), if_neg (by rintro rfl; exact absurd h (by decide)), if_neg (by omega)]
theorem contB_big {b : UInt8} (h : contB b = true) : 128 ≤ b.toNat := by
  unfold contB at h
  rw [Bool.and_eq_true, decide_eq_true_eq] at h
  exact h.1
theorem char_cases {ch : Bs} (h : charB ch = true) : (∃ a, ch = [a] ∧ a.toNat < 128) ∨ (ch.flatMap qb = ch ∧ ∃ a t, ch = a :: t ∧ 128 ≤ a.toNat) := by
  unfold charB at h
  split at h
  · exact .inl ⟨_, rfl, by simpa using h⟩
  · rename_i a b
    simp only [Bool.and_eq_true, decide_eq_true_eq] at h
    have ha : 128 ≤ a.toNat := by omega
    refine .inr ⟨?_, _, _, rfl, ha⟩
    simp [qb_big ha, qb_big (contB_big h.2)]
  · rename_i a b c
    simp only [Bool.and_eq_true, decide_eq_true_eq] at h
    have ha : 128 ≤ a.toNat := by omega
    refine .inr ⟨?_, _, _, rfl, ha⟩
    simp [qb_big ha, qb_big (contB_big h.1.1.1.2), qb_big (contB_big h.1.1.2)]
  · rename_i a b c d
    simp only [Bool.and_eq_true, decide_eq_true_eq] at h
    have ha : 128 ≤ a.toNat := by omega
    refine .inr ⟨?_, _, _, rfl, ha⟩
    simp [qb_big ha, qb_big (contB_big h.1.1.1.1.2), qb_big (contB_big h.1.1.1.2), qb_big (contB_big h.1.1.2)]
  · cases h
/-- one byte that was quoted is read -/
theorem unq_byte {a : UInt8} (ha : a.toNat < 128) (f : Nat) (out : Bs) (i : Nat) (r : Bs) : unqF (f + 1) out i (qb a ++ r) = unqF f (out ++ [a]) (i + (qb a).length) r := by
  unfold qb
  split
  · rename_i h; subst h
    rfl
  · split
    · rename_i h; subst h
      rfl
    · split
      · rename_i h; subst h
        rfl
      · split
        · rename_i h; subst h
          rfl
        · split
          · rename_i h; subst h
            rfl
          · split
            · rename_i n1 n2 n3 n4 n5 hlt
              show unqF (f + 1) out i (92 :: (117 :: 48 :: 48 :: hexC (a.toNat / 16) :: hexC (a.toNat % 16) :: r)) = _
              rw [unqF, if_neg (by decide), if_pos rfl, esc_ctl hlt, if_neg (by simp)]
              rfl
            · rename_i n1 n2 n3 n4 n5 hlt
              have hc : charB [a] = true := by simpa [charB] using ha
              have hw := wid_char hc r
              rw [show ([a] : Bs) ++ r = a :: r from rfl] at hw ⊢
              rw [unqF, if_neg n1, if_neg n2, hw, if_neg (by simp; omega)]
              rfl
theorem unq_char {ch : Bs} (h : charB ch = true) (f : Nat) (out : Bs) (i : Nat) (r : Bs) : unqF (f + 1) out i (ch.flatMap qb ++ r) = unqF f (out ++ ch) (i + (ch.flatMap qb).length) r := by
  rcases char_cases h with ⟨a, rfl, ha⟩ | ⟨h1, a, t, rfl, ha⟩
  · rw [show [a].flatMap qb = qb a by simp]
    exact unq_byte ha f out i r
  · rw [h1]
    have hw := wid_char h r
    have hp := char_pos h
    rw [show (a :: t) ++ r = a :: (t ++ r) from rfl] at hw ⊢
    rw [unqF, if_neg (by rintro rfl; exact absurd ha (by decide)), if_neg (by rintro rfl; exact absurd ha (by decide)), hw, if_neg (by omega)]
    rw [show a :: (t ++ r) = (a :: t) ++ r from rfl, List.take_left, List.drop_left]
theorem qb_pos (c : UInt8) : 1 ≤ (qb c).length := by
  unfold qb
  repeat' split
  all_goals simp
theorem flat_pos (s : Bs) : s.length ≤ (s.flatMap qb).length := by
  induction s with
  | nil => simp
  | cons c t ih =>
    rw [List.flatMap_cons, List.length_append]
    have := qb_pos c
    simp only [List.length_cons]
    omega
theorem unq_flat {s : Bs} (h : VL s) : ∀ (f : Nat) (out : Bs) (i : Nat) (more : Bs), s.length + 1 ≤ f → unqF f out i (s.flatMap qb ++ 34 :: more) = (out ++ s, i + (s.flatMap qb).length + 1, 0) := by
  induction h with
  | nil =>
    intro f out i more hf
    obtain ⟨g, rfl⟩ : ∃ g, f = g + 1 := ⟨f - 1, by omega⟩
    simp [unqF]
  | cons ch r hc _ ih =>
    intro f out i more hf
    have hp := char_pos hc
    rw [List.length_append] at hf
    obtain ⟨g, rfl⟩ : ∃ g, f = g + 1 := ⟨f - 1, by omega⟩
    rw [List.flatMap_append, List.append_assoc, unq_char hc, ih g _ _ more (by omega), List.append_assoc, List.length_append]
    congr 2
    omega
/-- K4: Unquote undoes Quote -/
theorem unq_quote {s : Bs} (h : validL s = true) (more : Bs) : unqL (quoteL s ++ more) = (s, (quoteL s).length, 0) := by
  have hv := (valid_iff s).1 h
  have e : quoteL s ++ more = 34 :: (s.flatMap qb ++ 34 :: more) := by simp [quoteL]
  rw [e, unqL, if_pos rfl, unq_flat hv _ [] 1 more (by
    rw [List.length_append]
    have := flat_pos s
    simp only [List.length_cons]
    omega)]
  simp [quoteL]
  omega
end Go.Proofs.YtnkhghjcfhpeiaaGreatDoor

/-
  JSON as lists alone: values, what is right, texts, how a text is read (L1 to L4).
-/
namespace Go.Proofs.YtnkhghjcfhpeiaaGreatDoor

/-- a value: its kind, its text, its keys, its values -/
inductive Jv where
  | mk (k : Int) (t : Bs) (ks : List Bs) (vs : List Jv)
def Jv.zero : Jv := .mk 0 [] [] []

/-! numbers -/
def digB (c : UInt8) : Bool := decide (48 ≤ c.toNat) && decide (c.toNat ≤ 57)
/-- with how many digits a text begins -/
def digL : Bs → Nat
  | [] => 0
  | c :: t => if digB c = true then digL t + 1 else 0
def sgnL : Bs → Nat
  | c :: _ => if c = 45 then 1 else 0
  | [] => 0
def sg2L : Bs → Nat
  | c :: _ => if c = 43 ∨ c = 45 then 1 else 0
  | [] => 0
def intL : Bs → Nat
  | c :: t => if c = 48 then 1 else digL (c :: t)
  | [] => 0
def fracL : Bs → Option Nat
  | c :: t => if c = 46 then (if digL t = 0 then none else some (1 + digL t)) else some 0
  | [] => some 0
def expL : Bs → Option Nat
  | c :: t => if c = 101 ∨ c = 69 then (if digL (t.drop (sg2L t)) = 0 then none else some (1 + sg2L t + digL (t.drop (sg2L t)))) else some 0
  | [] => some 0
/-- how many bytes of a text stand for a number; 0: none -/
def numberL (l : Bs) : Nat :=
  if intL (l.drop (sgnL l)) = 0 then 0 else match fracL (l.drop (sgnL l + intL (l.drop (sgnL l)))) with
  | none => 0
  | some a => match expL (l.drop (sgnL l + intL (l.drop (sgnL l)) + a)) with
    | none => 0
    | some b => sgnL l + intL (l.drop (sgnL l)) + a + b
/-- what may stand behind a value -/
def stopB (r : Bs) : Prop := r = [] ∨ ∃ c t, r = c :: t ∧ (c = 44 ∨ c = 93 ∨ c = 125)
theorem dig_le : ∀ l : Bs, digL l ≤ l.length
  | [] => Nat.le_refl _
  | c :: t => by
    rw [digL]
    have := dig_le t
    split
    · simp only [List.length_cons]; omega
    · simp
theorem dig_app (r : Bs) (hr : digL r = 0) : ∀ l : Bs, digL (l ++ r) = digL l
  | [] => hr
  | c :: t => by
    rw [List.cons_append, digL, digL, dig_app r hr t]
theorem dig_take : ∀ (l : Bs) (k : Nat), digL l ≤ k → digL (l.take k) = digL l
  | [], k, _ => by simp
  | c :: t, 0, h => by
    rw [digL] at h ⊢
    split at h
    · omega
    · rename_i hc
      rw [if_neg hc]
      rfl
  | c :: t, k + 1, h => by
    rw [List.take_succ_cons, digL, digL]
    rw [digL] at h
    split
    · rename_i hc
      rw [if_pos hc] at h
      rw [dig_take t k (by omega)]
    · rfl
theorem stop_dig {r : Bs} (h : stopB r) : digL r = 0 := by
  rcases h with rfl | ⟨c, t, rfl, hc⟩
  · rfl
  · rw [digL, if_neg (by rcases hc with rfl | rfl | rfl <;> decide)]
theorem int_le (l : Bs) : intL l ≤ l.length := by
  cases l with
  | nil => exact Nat.le_refl _
  | cons c t =>
    rw [intL]
    split
    · simp
    · exact dig_le _
theorem int_app {l : Bs} (r : Bs) (hr : digL r = 0) (h : intL l ≠ 0) : intL (l ++ r) = intL l := by
  cases l with
  | nil => exact absurd rfl h
  | cons c t =>
    rw [List.cons_append, intL, intL, ← List.cons_append, dig_app r hr]
theorem int_take {l : Bs} {k : Nat} (h : intL l ≤ k) (h0 : intL l ≠ 0) : intL (l.take k) = intL l := by
  cases l with
  | nil => exact absurd rfl h0
  | cons c t =>
    obtain ⟨n, rfl⟩ : ∃ n, k = n + 1 := ⟨k - 1, by omega⟩
    rw [List.take_succ_cons, intL, intL]
    rw [intL] at h
    split
    · rfl
    · rename_i hc
      rw [if_neg hc] at h
      have := dig_take (c :: t) (n + 1) h
      rwa [List.take_succ_cons] at this
theorem frac_le {l : Bs} {a : Nat} (h : fracL l = some a) : a ≤ l.length := by
  cases l with
  | nil => cases h; exact Nat.le_refl _
  | cons c t =>
    rw [fracL] at h
    have := dig_le t
    split at h
    · split at h
      · cases h
      · cases h; simp only [List.length_cons]; omega
    · cases h; omega
theorem frac_app {l : Bs} {a : Nat} {r : Bs} (hr : stopB r) (h : fracL l = some a) : fracL (l ++ r) = some a := by
  cases l with
  | nil =>
    cases h
    rcases hr with rfl | ⟨c, t, rfl, hc⟩
    · rfl
    · rw [List.nil_append, fracL, if_neg (by rcases hc with rfl | rfl | rfl <;> decide)]
  | cons c t =>
    rw [List.cons_append, fracL, dig_app r (stop_dig hr)]
    rwa [fracL] at h
theorem frac_take {l : Bs} {a k : Nat} (h : fracL l = some a) (hk : a ≤ k) : fracL (l.take k) = some a := by
  cases l with
  | nil => simpa using h
  | cons c t =>
    rw [fracL] at h
    split at h
    · rename_i hc
      split at h
      · cases h
      · rename_i hd
        cases h
        obtain ⟨n, rfl⟩ : ∃ n, k = n + 1 := ⟨k - 1, by omega⟩
        rw [List.take_succ_cons, fracL, if_pos hc, dig_take t n (by omega), if_neg hd]
    · rename_i hc
      cases h
      cases k with
      | zero => rfl
      | succ n => rw [List.take_succ_cons, fracL, if_neg hc]
theorem sg2_le (l : Bs) : sg2L l ≤ 1 := by
  cases l with
  | nil => simp [sg2L]
  | cons c t => rw [sg2L]; split <;> omega
theorem exp_le {l : Bs} {a : Nat} (h : expL l = some a) : a ≤ l.length := by
  cases l with
  | nil => cases h; exact Nat.le_refl _
  | cons c t =>
    rw [expL] at h
    have := dig_le (t.drop (sg2L t))
    rw [List.length_drop] at this
    split at h
    · split at h
      · cases h
      · cases h; simp only [List.length_cons]; omega
    · cases h; omega
theorem exp_app {l : Bs} {a : Nat} {r : Bs} (hr : stopB r) (h : expL l = some a) : expL (l ++ r) = some a := by
  cases l with
  | nil =>
    cases h
    rcases hr with rfl | ⟨c, t, rfl, hc⟩
    · rfl
    · rw [List.nil_append, expL, if_neg (by rcases hc with rfl | rfl | rfl <;> decide)]
  | cons c t =>
    rw [List.cons_append, expL]
    rw [expL] at h
    split at h
    · rename_i hc
      rw [if_pos hc]
      split at h
      · cases h
      · rename_i hd
        have hne : t ≠ [] := by rintro rfl; exact hd rfl
        have hs : sg2L (t ++ r) = sg2L t := by
          cases t with
          | nil => exact absurd rfl hne
          | cons x y => rfl
        have hl : sg2L t ≤ t.length := by
          have := sg2_le t
          cases t with
          | nil => exact absurd rfl hne
          | cons x y => simp only [List.length_cons]; omega
        rw [hs, List.drop_append_of_le_length hl, dig_app r (stop_dig hr), if_neg hd]
        exact h
    · rename_i hc
      rw [if_neg hc]
      exact h
theorem exp_take {l : Bs} {a k : Nat} (h : expL l = some a) (hk : a ≤ k) : expL (l.take k) = some a := by
  cases l with
  | nil => simpa using h
  | cons c t =>
    rw [expL] at h
    split at h
    · rename_i hc
      split at h
      · cases h
      · rename_i hd
        cases h
        obtain ⟨n, rfl⟩ : ∃ n, k = n + 1 := ⟨k - 1, by omega⟩
        have hs : sg2L (t.take n) = sg2L t := by
          cases t with
          | nil => simp
          | cons x y =>
            obtain ⟨q, rfl⟩ : ∃ q, n = q + 1 := ⟨n - 1, by omega⟩
            rfl
        rw [List.take_succ_cons, expL, if_pos hc, hs, List.drop_take, dig_take _ _ (by omega), if_neg hd]
    · rename_i hc
      cases h
      cases k with
      | zero => rfl
      | succ n => rw [List.take_succ_cons, expL, if_neg hc]
theorem sgn_le (l : Bs) : sgnL l ≤ 1 := by
  cases l with
  | nil => simp [sgnL]
  | cons c t => rw [sgnL]; split <;> omega
/-- the parts of a number -/
theorem jn_parts {l : Bs} (h : numberL l ≠ 0) : ∃ i a b, intL (l.drop (sgnL l)) = i ∧ i ≠ 0 ∧ fracL (l.drop (sgnL l + i)) = some a ∧ expL (l.drop (sgnL l + i + a)) = some b ∧ numberL l = sgnL l + i + a + b := by
  unfold numberL at h ⊢
  split at h
  · exact absurd rfl h
  · rename_i h0
    rw [if_neg h0]
    split at h
    · exact absurd rfl h
    · rename_i a ha
      split at h
      · exact absurd rfl h
      · rename_i b hb
        exact ⟨_, a, b, rfl, h0, ha, hb, rfl⟩
theorem jn_of {l : Bs} {i a b : Nat} (h1 : intL (l.drop (sgnL l)) = i) (h0 : i ≠ 0) (h2 : fracL (l.drop (sgnL l + i)) = some a) (h3 : expL (l.drop (sgnL l + i + a)) = some b) : numberL l = sgnL l + i + a + b := by
  unfold numberL
  rw [h1, if_neg h0, h2]
  simp only
  rw [h3]
theorem jn_le (l : Bs) : numberL l ≤ l.length := by
  by_cases h : numberL l = 0
  · omega
  · obtain ⟨i, a, b, h1, h0, h2, h3, h4⟩ := jn_parts h
    have := exp_le h3
    rw [List.length_drop] at this
    by_cases hb : b = 0
    · subst hb
      have := frac_le h2
      rw [List.length_drop] at this
      by_cases ha : a = 0
      · subst ha
        have := int_le (l.drop (sgnL l))
        rw [List.length_drop] at this
        omega
      · omega
    · omega
theorem jn_app {l r : Bs} (hr : stopB r) (h : numberL l ≠ 0) (hl : numberL l = l.length) : numberL (l ++ r) = l.length := by
  obtain ⟨i, a, b, h1, h0, h2, h3, h4⟩ := jn_parts h
  have hs : sgnL (l ++ r) = sgnL l := by
    cases l with
    | nil => exact absurd hl h
    | cons c t => rfl
  rw [hl] at h4
  rw [h4]
  rw [← hs]
  refine jn_of ?_ h0 ?_ ?_
  · rw [hs, List.drop_append_of_le_length (by omega), int_app r (stop_dig hr) (by rw [h1]; exact h0), h1]
  · rw [hs, List.drop_append_of_le_length (by omega)]
    exact frac_app hr h2
  · rw [hs, List.drop_append_of_le_length (by omega)]
    exact exp_app hr h3
theorem jn_take {l : Bs} (h : numberL l ≠ 0) : numberL (l.take (numberL l)) = numberL l := by
  obtain ⟨i, a, b, h1, h0, h2, h3, h4⟩ := jn_parts h
  have hle := jn_le l
  obtain ⟨n, hn⟩ : ∃ n, numberL l = n := ⟨_, rfl⟩
  rw [hn] at h4 hle h ⊢
  have hs : sgnL (l.take n) = sgnL l := by
    cases l with
    | nil => simp at hle; omega
    | cons c t =>
      obtain ⟨q, rfl⟩ : ∃ q, n = q + 1 := ⟨n - 1, by omega⟩
      rfl
  rw [h4, ← hs]
  rw [← hs] at h4
  rw [← h4]
  rw [hs] at h4
  have := jn_of (l := l.take n) (i := i) (a := a) (b := b) (by rw [hs, List.drop_take, int_take (by omega) (by rw [h1]; exact h0), h1]) h0 (by rw [hs, List.drop_take]; exact frac_take h2 (by omega)) (by rw [hs, List.drop_take]; exact exp_take h3 (by omega))
  rw [this, hs, h4]
end Go.Proofs.YtnkhghjcfhpeiaaGreatDoor

/-
  JSON as lists alone: what is right (L1), texts (L2), how a text is read (L3), sameness (L4).
-/
namespace Go.Proofs.YtnkhghjcfhpeiaaGreatDoor

def Jv.k : Jv → Int | .mk k _ _ _ => k
def Jv.t : Jv → Bs | .mk _ t _ _ => t
def Jv.ks : Jv → List Bs | .mk _ _ ks _ => ks
def Jv.vs : Jv → List Jv | .mk _ _ _ vs => vs
mutual
/-- how many values there are in one -/
def nodesJ : Jv → Nat | .mk _ _ _ vs => nodesL vs + 1
def nodesL : List Jv → Nat | [] => 0 | v :: r => nodesJ v + nodesL r
end
/-- is a text that of a number? -/
def numT (t : Bs) : Bool := !t.isEmpty && decide (numberL t = t.length)
/-- are no two equal? -/
def apartL : List Bs → Bool | [] => true | k :: r => !r.contains k && apartL r
/-- are the fields empty that a kind does not have? -/
def shapeJ (k : Int) (t : Bs) (ks : List Bs) (vs : List Jv) : Bool := (decide (k = 7) || ks.isEmpty) && (decide (6 ≤ k) || vs.isEmpty) && (decide (k = 4 ∨ k = 5) || t.isEmpty)
/-- may a value be, of so much depth? -/
def rightF : Nat → Jv → Bool
  | 0, _ => false
  | d + 1, .mk k t ks vs => shapeJ k t ks vs && (
    if k = 1 ∨ k = 2 ∨ k = 3 then true
    else if k = 4 then numT t
    else if k = 5 then validL t
    else if k = 6 then vs.all (rightF d)
    else if k = 7 then decide (ks.length = vs.length) && vs.all (rightF d) && ks.all validL && apartL ks
    else false)
/-- L1 -/
def rightJ (v : Jv) : Bool := decide (nodesJ v ≤ 500) && rightF 16 v
/-- texts, separated by commas -/
def tailC : List Bs → Bs | [] => [] | x :: r => 44 :: (x ++ tailC r)
def joinC : List Bs → Bs | [] => [] | x :: r => x ++ tailC r
theorem tailC_app (l : List Bs) (x : Bs) : tailC (l ++ [x]) = tailC l ++ 44 :: x := by
  induction l with
  | nil => simp [tailC]
  | cons y r ih => simp [tailC, ih]
theorem joinC_snoc (l : List Bs) (x : Bs) : joinC (l ++ [x]) = if l = [] then x else joinC l ++ 44 :: x := by
  cases l with
  | nil => simp [joinC, tailC]
  | cons y r => simp [joinC, tailC_app]
/-- a member's text -/
def membC (k x : Bs) : Bs := (quoteQ k).1 ++ 58 :: x
mutual
/-- L2, of a right value -/
def textJ : Jv → Bs
  | .mk k t ks vs => if k = 1 then [110, 117, 108, 108] else if k = 2 then [102, 97, 108, 115, 101] else if k = 3 then [116, 114, 117, 101] else if k = 4 then t else if k = 5 then (quoteQ t).1
    else if k = 7 then 123 :: (joinC (List.zipWith membC ks (textsJ vs)) ++ [125]) else 91 :: (joinC (textsJ vs) ++ [93])
def textsJ : List Jv → List Bs | [] => [] | v :: r => textJ v :: textsJ r
end
/-- L2 -/
def printJ (v : Jv) : Bs × Int := if rightJ v = true then (textJ v, 0) else ([], 1)
mutual
/-- L4 -/
def sameJ : Jv → Jv → Bool
  | .mk k t ks vs, .mk k2 t2 ks2 vs2 => decide (k = k2) && decide (t = t2) && decide (ks = ks2) && sameL vs vs2
def sameL : List Jv → List Jv → Bool | [], [] => true | v :: r, v2 :: r2 => sameJ v v2 && sameL r r2 | [], _ :: _ => false | _ :: _, [] => false
end
mutual
theorem same_iff : ∀ a b : Jv, sameJ a b = true ↔ a = b
  | .mk k t ks vs, .mk k2 t2 ks2 vs2 => by
    simp only [sameJ, Bool.and_eq_true, decide_eq_true_eq, sameL_iff vs vs2, Jv.mk.injEq, and_assoc]
theorem sameL_iff : ∀ a b : List Jv, sameL a b = true ↔ a = b
  | [], [] => by simp [sameL]
  | [], _ :: _ => by simp [sameL]
  | _ :: _, [] => by simp [sameL]
  | v :: r, v2 :: r2 => by simp only [sameL, Bool.and_eq_true, same_iff v v2, sameL_iff r r2, List.cons.injEq]
end

def blankB (c : UInt8) : Bool := decide (c = 32) || decide (c = 9) || decide (c = 10) || decide (c = 13)
/-- what is left behind blanks -/
def skipB : Bs → Bs | [] => [] | c :: t => if blankB c = true then skipB t else c :: t
/-- what is to be read -/
inductive Job where
  | val (w : Nat)
  | items (w : Nat) (acc : List Jv)
  | mems (w : Nat) (ks : List Bs) (acc : List Jv)
/-- an error and what is left from its place on, or what was read, how many values, and what is left -/
abbrev Res := Except (Int × Bs) (Jv × Nat × Bs)
/-- one of the three words -/
def wordR (m : Nat) (l : Bs) : Res :=
  if [110, 117, 108, 108].isPrefixOf l = true then .ok (.mk 1 [] [] [], m, l.drop 4)
  else if [102, 97, 108, 115, 101].isPrefixOf l = true then .ok (.mk 2 [] [] [], m, l.drop 5)
  else if [116, 114, 117, 101].isPrefixOf l = true then .ok (.mk 3 [] [] [], m, l.drop 4)
  else .error (31, l)
/-- a quoted text -/
def textR (l : Bs) : Except (Int × Bs) (Bs × Bs) := if l.take 1 = [34] then (if (unqL l).2.2 = 0 then .ok ((unqL l).1, l.drop (unqL l).2.1) else .error ((unqL l).2.2, l.drop (unqL l).2.1)) else .error (31, l)
/-- a text or a number -/
def leafR (m : Nat) (l : Bs) : Res := match l with
  | [] => .error (31, [])
  | c :: t => if c = 34 then (match textR (c :: t) with | .error e => .error e | .ok (s, r) => .ok (.mk 5 s [] [], m, r))
    else if c = 45 ∨ digB c = true then (if numberL (c :: t) = 0 then .error (31, c :: t) else .ok (.mk 4 ((c :: t).take (numberL (c :: t))) [] [], m, (c :: t).drop (numberL (c :: t))))
    else wordR m (c :: t)
def run : Nat → Job → Nat → Bs → Res
  | 0, _, _, l => .error (-1, l)
  | f + 1, .val w, m, l0 =>
    if 16 ≤ w then .error (32, skipB l0) else if 500 ≤ m then .error (2, skipB l0) else
    match skipB l0 with
    | [] => .error (31, [])
    | c :: t =>
      if c = 91 then (match skipB t with
        | [] => run f (.items w []) (m + 1) []
        | d :: r => if d = 93 then .ok (.mk 6 [] [] [], m + 1, r) else run f (.items w []) (m + 1) (d :: r))
      else if c = 123 then (match skipB t with
        | [] => run f (.mems w [] []) (m + 1) []
        | d :: r => if d = 125 then .ok (.mk 7 [] [] [], m + 1, r) else run f (.mems w [] []) (m + 1) (d :: r))
      else leafR (m + 1) (c :: t)
  | f + 1, .items w acc, m, l => match run f (.val (w + 1)) m l with
    | .error e => .error e
    | .ok (v, m', l') => match skipB l' with
      | [] => .error (31, [])
      | c :: r => if c = 44 then run f (.items w (acc ++ [v])) m' r else if c = 93 then .ok (.mk 6 [] [] (acc ++ [v]), m', r) else .error (31, c :: r)
  | f + 1, .mems w ks acc, m, l => match textR (skipB l) with
    | .error e => .error e
    | .ok (k, l2) => if ks.contains k = true then .error (31, skipB l) else match skipB l2 with
      | [] => .error (31, [])
      | c :: l3 => if c ≠ 58 then .error (31, c :: l3) else match run f (.val (w + 1)) m l3 with
        | .error e => .error e
        | .ok (v, m', l') => match skipB l' with
          | [] => .error (31, [])
          | c :: r => if c = 44 then run f (.mems w (ks ++ [k]) (acc ++ [v])) m' r else if c = 125 then .ok (.mk 7 [] (ks ++ [k]) (acc ++ [v]), m', r) else .error (31, c :: r)
/-- L3: the value, the error, the place -/
def parseJ (s : Bs) : Jv × Int × Nat := if 4000 < s.length then (.zero, 2, 0) else match run (2 * s.length + 1) (.val 0) 0 s with
  | .error (e, l) => (.zero, e, s.length - l.length)
  | .ok (v, _, l) => match skipB l with
    | [] => (v, 0, 0)
    | c :: r => (.zero, 31, s.length - (c :: r).length)

theorem skip_le : ∀ l : Bs, (skipB l).length ≤ l.length
  | [] => Nat.le_refl _
  | c :: t => by
    rw [skipB]
    have := skip_le t
    split
    · simp only [List.length_cons]; omega
    · exact Nat.le_refl _
theorem text_len {l s r : Bs} (h : textR l = .ok (s, r)) : r.length + 2 ≤ l.length ∧ (unqL l) = (s, l.length - r.length, 0) ∧ r = l.drop (l.length - r.length) ∧ validL s = true ∧ ∃ t, l = 34 :: t := by
  unfold textR at h
  split at h
  · rename_i h1
    have ht : ∃ t, l = 34 :: t := by
      cases l with
      | nil => cases h1
      | cons c t => exact ⟨t, by rw [(List.cons.inj (show [c] = [34] from h1)).1]⟩
    split at h
    · rename_i h2
      have hg := unq_good l
      have h3 := hg.2.2 h2
      injection h with h
      obtain ⟨rfl, rfl⟩ := Prod.mk.inj h
      rw [List.length_drop]
      have e : l.length - (l.length - (unqL l).2.1) = (unqL l).2.1 := by omega
      exact ⟨by omega, by rw [e, ← h2], by rw [e], h3.1, ht⟩
    · cases h
  · cases h
theorem text_err {l r : Bs} {e : Int} (h : textR l = .error (e, r)) : e ≠ -1 := by
  unfold textR at h
  split at h
  · split at h
    · cases h
    · rename_i h2
      injection h with h
      have := (unq_good l).2.1 h2
      rw [← (Prod.mk.inj h).1, this.2]
      decide
  · injection h with h
    rw [← (Prod.mk.inj h).1]
    decide
theorem word_len {m m' : Nat} {l l' : Bs} {v : Jv} (h : wordR m l = .ok (v, m', l')) : l'.length < l.length := by
  unfold wordR at h
  have hp : ∀ p : Bs, p.isPrefixOf l = true → p.length ≤ l.length := fun p hp => by
    rw [List.isPrefixOf_iff_prefix] at hp
    exact hp.length_le
  repeat' split at h
  · rename_i h1
    have := hp _ h1
    injection h with h
    obtain ⟨_, h⟩ := Prod.mk.inj h
    rw [← (Prod.mk.inj h).2, List.length_drop]
    simp only [List.length_cons, List.length_nil] at this
    omega
  · rename_i h1
    have := hp _ h1
    injection h with h
    obtain ⟨_, h⟩ := Prod.mk.inj h
    rw [← (Prod.mk.inj h).2, List.length_drop]
    simp only [List.length_cons, List.length_nil] at this
    omega
  · rename_i h1
    have := hp _ h1
    injection h with h
    obtain ⟨_, h⟩ := Prod.mk.inj h
    rw [← (Prod.mk.inj h).2, List.length_drop]
    simp only [List.length_cons, List.length_nil] at this
    omega
  · cases h
theorem leaf_len {m m' : Nat} {l l' : Bs} {v : Jv} (h : leafR m l = .ok (v, m', l')) : l'.length < l.length := by
  unfold leafR at h
  split at h
  · cases h
  · rename_i c t
    split at h
    · split at h
      · cases h
      · rename_i s r ht
        injection h with h
        obtain ⟨_, h⟩ := Prod.mk.inj h
        rw [← (Prod.mk.inj h).2]
        have := (text_len ht).1
        omega
    · split at h
      · split at h
        · cases h
        · rename_i hn
          injection h with h
          obtain ⟨_, h⟩ := Prod.mk.inj h
          rw [← (Prod.mk.inj h).2, List.length_drop]
          have := jn_le (c :: t)
          omega
      · exact word_len h
/-- what is left is less than there was -/
theorem run_len : ∀ (f : Nat) (j : Job) (m : Nat) (l : Bs) (v : Jv) (m' : Nat) (l' : Bs), run f j m l = .ok (v, m', l') → l'.length < l.length := by
  intro f
  induction f with
  | zero => intro j m l v m' l' h; cases j <;> cases h
  | succ f ih =>
    intro j m l v m' l' h
    cases j with
    | val w =>
      rw [run] at h
      split at h
      · cases h
      · split at h
        · cases h
        · have hs := skip_le l
          split at h
          · cases h
          · rename_i c t hct
            rw [hct, List.length_cons] at hs
            split at h
            · have hs2 := skip_le t
              split at h
              · rename_i hr
                have := ih _ _ _ _ _ _ h
                rw [hr] at hs2
                omega
              · rename_i d r hr
                rw [hr, List.length_cons] at hs2
                split at h
                · injection h with h
                  obtain ⟨_, h⟩ := Prod.mk.inj h
                  rw [← (Prod.mk.inj h).2]
                  omega
                · have := ih _ _ _ _ _ _ h
                  rw [List.length_cons] at this
                  omega
            · split at h
              · have hs2 := skip_le t
                split at h
                · rename_i hr
                  have := ih _ _ _ _ _ _ h
                  rw [hr] at hs2
                  omega
                · rename_i d r hr
                  rw [hr, List.length_cons] at hs2
                  split at h
                  · injection h with h
                    obtain ⟨_, h⟩ := Prod.mk.inj h
                    rw [← (Prod.mk.inj h).2]
                    omega
                  · have := ih _ _ _ _ _ _ h
                    rw [List.length_cons] at this
                    omega
              · have := leaf_len h
                rw [List.length_cons] at this
                omega
    | items w acc =>
      rw [run] at h
      split at h
      · cases h
      · rename_i v1 m1 l1 h1
        have k1 := ih _ _ _ _ _ _ h1
        have hs := skip_le l1
        split at h
        · cases h
        · rename_i c r hr
          rw [hr, List.length_cons] at hs
          split at h
          · have := ih _ _ _ _ _ _ h
            omega
          · split at h
            · injection h with h
              obtain ⟨_, h⟩ := Prod.mk.inj h
              rw [← (Prod.mk.inj h).2]
              omega
            · cases h
    | mems w ks acc =>
      rw [run] at h
      split at h
      · cases h
      · rename_i k l2 h0
        have k0 := (text_len h0).1
        have hs0 := skip_le l
        split at h
        · cases h
        · have hs2 := skip_le l2
          split at h
          · cases h
          · rename_i c l3 hl3
            rw [hl3, List.length_cons] at hs2
            split at h
            · cases h
            · split at h
              · cases h
              · rename_i v1 m1 l1 h1
                have k1 := ih _ _ _ _ _ _ h1
                have hs := skip_le l1
                split at h
                · cases h
                · rename_i d r hr
                  rw [hr, List.length_cons] at hs
                  split at h
                  · have := ih _ _ _ _ _ _ h
                    omega
                  · split at h
                    · injection h with h
                      obtain ⟨_, h⟩ := Prod.mk.inj h
                      rw [← (Prod.mk.inj h).2]
                      omega
                    · cases h
end Go.Proofs.YtnkhghjcfhpeiaaGreatDoor

/-
  Right as the program counts it, as lists alone.
-/
namespace Go.Proofs.YtnkhghjcfhpeiaaGreatDoor
/-- what is asked of a value, but for the values in it -/
def aloneJ (k : Int) (t : Bs) (ks : List Bs) (vs : List Jv) : Bool :=
  if k = 1 ∨ k = 2 ∨ k = 3 then t.isEmpty && (ks.isEmpty && vs.isEmpty)
  else if k = 4 then numT t && (ks.isEmpty && vs.isEmpty)
  else if k = 5 then validL t && (ks.isEmpty && vs.isEmpty)
  else if k = 6 then t.isEmpty && ks.isEmpty
  else if k = 7 then (t.isEmpty && decide (ks.length = vs.length)) && (ks.all validL && apartL ks)
  else false
theorem right_alone (d : Nat) (k : Int) (t : Bs) (ks : List Bs) (vs : List Jv) : rightF (d + 1) (.mk k t ks vs) = (aloneJ k t ks vs && vs.all (rightF d)) := by
  unfold rightF aloneJ shapeJ
  by_cases h1 : k = 1 ∨ k = 2 ∨ k = 3
  · rw [if_pos h1, if_pos h1]
    have a : decide (k = 7) = false := decide_eq_false (by omega)
    have b : decide (6 ≤ k) = false := decide_eq_false (by omega)
    have c : decide (k = 4 ∨ k = 5) = false := decide_eq_false (by omega)
    rw [a, b, c]
    cases vs <;> cases t.isEmpty <;> cases ks.isEmpty <;> rfl
  · rw [if_neg h1, if_neg h1]
    by_cases h4 : k = 4
    · subst h4
      simp only [if_true]
      cases vs <;> cases numT t <;> cases ks.isEmpty <;> simp
    · rw [if_neg h4, if_neg h4]
      by_cases h5 : k = 5
      · subst h5
        simp only [if_true]
        cases vs <;> cases validL t <;> cases ks.isEmpty <;> simp
      · rw [if_neg h5, if_neg h5]
        by_cases h6 : k = 6
        · subst h6
          simp only [if_true]
          cases vs.all (rightF d) <;> cases t.isEmpty <;> cases ks.isEmpty <;> simp
        · rw [if_neg h6, if_neg h6]
          by_cases h7 : k = 7
          · subst h7
            simp only [if_true]
            cases vs.all (rightF d) <;> cases t.isEmpty <;> cases ks.all validL <;> cases apartL ks <;> simp
          · rw [if_neg h7, if_neg h7]
            simp
mutual
/-- is a value right where it stands in o others, behind n others? how many were looked at -/
def chkJ (o n : Nat) : Jv → Bool × Nat
  | .mk k t ks vs => if o = 16 ∨ 500 < n + 1 ∨ aloneJ k t ks vs = false then (false, n + 1) else chkL (o + 1) (n + 1) vs
def chkL (o n : Nat) : List Jv → Bool × Nat
  | [] => (true, n)
  | v :: r => if (chkJ o n v).1 = true then chkL o (chkJ o n v).2 r else (false, (chkJ o n v).2)
end
mutual
theorem chkJ_spec : ∀ (v : Jv) (o n : Nat), o ≤ 16 → (((chkJ o n v).1 = true ↔ (rightF (16 - o) v = true ∧ n + nodesJ v ≤ 500)) ∧ ((chkJ o n v).1 = true → (chkJ o n v).2 = n + nodesJ v))
  | .mk k t ks vs, o, n, ho => by
    rw [chkJ, nodesJ]
    by_cases h16 : o = 16
    · subst h16
      simp [rightF]
    · have hd : 16 - o = (15 - o) + 1 := by omega
      rw [hd, right_alone]
      by_cases h5 : 500 < n + 1
      · rw [if_pos (.inr (.inl h5))]
        refine ⟨⟨fun h => absurd h (by simp), fun h => ?_⟩, fun h => absurd h (by simp)⟩
        omega
      · by_cases ha : aloneJ k t ks vs = false
        · rw [if_pos (.inr (.inr ha)), ha]
          simp
        · have hat : aloneJ k t ks vs = true := by simpa using ha
          rw [if_neg (by simp [h16, h5, hat]), hat]
          have h := chkL_spec vs (o + 1) (n + 1) (by omega) (by omega)
          rw [show 16 - (o + 1) = 15 - o by omega] at h
          simp only [Bool.true_and]
          rw [show n + (nodesL vs + 1) = n + 1 + nodesL vs by omega]
          exact h
theorem chkL_spec : ∀ (vs : List Jv) (o n : Nat), o ≤ 16 → n ≤ 500 → (((chkL o n vs).1 = true ↔ (vs.all (rightF (16 - o)) = true ∧ n + nodesL vs ≤ 500)) ∧ ((chkL o n vs).1 = true → (chkL o n vs).2 = n + nodesL vs))
  | [], o, n, _, hn => by
    rw [chkL, nodesL]
    simp [hn]
  | v :: r, o, n, ho, hn => by
    rw [chkL, nodesL, List.all_cons]
    have h := chkJ_spec v o n ho
    by_cases hc : (chkJ o n v).1 = true
    · rw [if_pos hc, h.2 hc]
      have h1 := h.1.1 hc
      have h2 := chkL_spec r o (n + nodesJ v) ho h1.2
      rw [h1.1, Bool.true_and, ← Nat.add_assoc]
      exact h2
    · rw [if_neg hc]
      refine ⟨⟨fun h => absurd h (by simp), fun h3 => ?_⟩, fun h => absurd h (by simp)⟩
      have h4 : rightF (16 - o) v = true ∧ n + nodesJ v ≤ 500 := by
        obtain ⟨h5, h6⟩ := h3
        rw [Bool.and_eq_true] at h5
        exact ⟨h5.1, by omega⟩
      exact absurd (h.1.2 h4) hc
end
theorem chk_right (v : Jv) : (chkJ 0 0 v).1 = rightJ v := by
  have h := (chkJ_spec v 0 0 (by omega)).1
  unfold rightJ
  rw [Bool.eq_iff_iff, h]
  simp [and_comm]
end Go.Proofs.YtnkhghjcfhpeiaaGreatDoor

/-
  JSON as lists alone: enough rounds; what is printed is read (L5).
-/
namespace Go.Proofs.YtnkhghjcfhpeiaaGreatDoor

/-- one step of the reading, over what its parts tell -/
def stepJ (R : Job → Nat → Bs → Res) : Job → Nat → Bs → Res
  | .val w, m, l0 =>
    if 16 ≤ w then .error (32, skipB l0) else if 500 ≤ m then .error (2, skipB l0) else
    match skipB l0 with
    | [] => .error (31, [])
    | c :: t =>
      if c = 91 then (match skipB t with
        | [] => R (.items w []) (m + 1) []
        | d :: r => if d = 93 then .ok (.mk 6 [] [] [], m + 1, r) else R (.items w []) (m + 1) (d :: r))
      else if c = 123 then (match skipB t with
        | [] => R (.mems w [] []) (m + 1) []
        | d :: r => if d = 125 then .ok (.mk 7 [] [] [], m + 1, r) else R (.mems w [] []) (m + 1) (d :: r))
      else leafR (m + 1) (c :: t)
  | .items w acc, m, l => match R (.val (w + 1)) m l with
    | .error e => .error e
    | .ok (v, m', l') => match skipB l' with
      | [] => .error (31, [])
      | c :: r => if c = 44 then R (.items w (acc ++ [v])) m' r else if c = 93 then .ok (.mk 6 [] [] (acc ++ [v]), m', r) else .error (31, c :: r)
  | .mems w ks acc, m, l => match textR (skipB l) with
    | .error e => .error e
    | .ok (k, l2) => if ks.contains k = true then .error (31, skipB l) else match skipB l2 with
      | [] => .error (31, [])
      | c :: l3 => if c ≠ 58 then .error (31, c :: l3) else match R (.val (w + 1)) m l3 with
        | .error e => .error e
        | .ok (v, m', l') => match skipB l' with
          | [] => .error (31, [])
          | c :: r => if c = 44 then R (.mems w (ks ++ [k]) (acc ++ [v])) m' r else if c = 125 then .ok (.mk 7 [] (ks ++ [k]) (acc ++ [v]), m', r) else .error (31, c :: r)
theorem run_step (f : Nat) (j : Job) (m : Nat) (l : Bs) : run (f + 1) j m l = stepJ (run f) j m l := by
  cases j <;> rfl
/-- there were too few rounds -/
def outR (x : Res) : Prop := ∃ r, x = .error (-1, r)
theorem leaf_err {m : Nat} {l : Bs} : ¬ outR (leafR m l) := by
  rintro ⟨r, h⟩
  unfold leafR at h
  split at h
  · cases h
  · rename_i c t
    split at h
    · split at h
      · rename_i e he
        injection h with h
        subst h
        exact text_err he rfl
      · cases h
    · split at h
      · split at h
        · cases h
        · cases h
      · unfold wordR at h
        repeat' split at h
        all_goals cases h
theorem step_mono {R R' : Job → Nat → Bs → Res} (hR : ∀ j m l, ¬ outR (R j m l) → R' j m l = R j m l) (j : Job) (m : Nat) (l : Bs) (h : ¬ outR (stepJ R j m l)) : stepJ R' j m l = stepJ R j m l := by
  cases j with
  | val w =>
    unfold stepJ at h ⊢
    simp only at h ⊢
    split
    · rfl
    · rename_i h1
      rw [if_neg h1] at h
      split
      · rfl
      · rename_i h2
        rw [if_neg h2] at h
        split
        · rfl
        · rename_i c t hc
          rw [hc] at h
          simp only at h
          split
          · rename_i h3
            rw [if_pos h3] at h
            split
            · rename_i hs
              rw [hs] at h
              exact hR _ _ _ h
            · rename_i d r hs
              rw [hs] at h
              simp only at h
              split
              · rfl
              · rename_i h4
                rw [if_neg h4] at h
                exact hR _ _ _ h
          · rename_i h3
            rw [if_neg h3] at h
            split
            · rename_i h5
              rw [if_pos h5] at h
              split
              · rename_i hs
                rw [hs] at h
                exact hR _ _ _ h
              · rename_i d r hs
                rw [hs] at h
                simp only at h
                split
                · rfl
                · rename_i h4
                  rw [if_neg h4] at h
                  exact hR _ _ _ h
            · rfl
  | items w acc =>
    unfold stepJ at h ⊢
    simp only at h ⊢
    have h0 : ¬ outR (R (.val (w + 1)) m l) := by
      rintro ⟨r, hr⟩
      rw [hr] at h
      exact h ⟨r, rfl⟩
    rw [hR _ _ _ h0]
    cases hv : R (.val (w + 1)) m l with
    | error e => rfl
    | ok x =>
      obtain ⟨v, m', l'⟩ := x
      rw [hv] at h
      simp only at h ⊢
      cases hs : skipB l' with
      | nil => rfl
      | cons c r =>
        rw [hs] at h
        simp only at h ⊢
        split
        · rename_i h3
          rw [if_pos h3] at h
          exact hR _ _ _ h
        · rfl
  | mems w ks acc =>
    unfold stepJ at h ⊢
    simp only at h ⊢
    cases ht : textR (skipB l) with
    | error e => rfl
    | ok x =>
      obtain ⟨k, l2⟩ := x
      rw [ht] at h
      simp only at h ⊢
      split
      · rfl
      · rename_i h1
        rw [if_neg h1] at h
        cases hs2 : skipB l2 with
        | nil => rfl
        | cons c l3 =>
          rw [hs2] at h
          simp only at h ⊢
          split
          · rfl
          · rename_i h2
            rw [if_neg h2] at h
            have h0 : ¬ outR (R (.val (w + 1)) m l3) := by
              rintro ⟨r, hr⟩
              rw [hr] at h
              exact h ⟨r, rfl⟩
            rw [hR _ _ _ h0]
            cases hv : R (.val (w + 1)) m l3 with
            | error e => rfl
            | ok x =>
              obtain ⟨v, m', l'⟩ := x
              rw [hv] at h
              simp only at h ⊢
              cases hs : skipB l' with
              | nil => rfl
              | cons c r =>
                rw [hs] at h
                simp only at h ⊢
                split
                · rename_i h3
                  rw [if_pos h3] at h
                  exact hR _ _ _ h
                · rfl
theorem run_mono1 : ∀ (f : Nat) (j : Job) (m : Nat) (l : Bs), ¬ outR (run f j m l) → run (f + 1) j m l = run f j m l := by
  intro f
  induction f with
  | zero => intro j m l h; exact absurd ⟨l, by cases j <;> rfl⟩ h
  | succ f ih =>
    intro j m l h
    rw [run_step (f + 1), run_step f]
    rw [run_step f] at h
    exact step_mono ih j m l h
theorem run_mono {f F : Nat} (hf : f ≤ F) {j : Job} {m : Nat} {l : Bs} (h : ¬ outR (run f j m l)) : run F j m l = run f j m l := by
  obtain ⟨d, rfl⟩ : ∃ d, F = f + d := ⟨F - f, by omega⟩
  clear hf
  induction d with
  | zero => rfl
  | succ d ih => rw [← Nat.add_assoc, run_mono1 _ _ _ _ (by rw [ih]; exact h), ih]
theorem ok_not {x : Jv × Nat × Bs} : ¬ outR (.ok x) := by rintro ⟨r, h⟩; cases h
theorem run_lift {f F : Nat} (hf : f ≤ F) {j : Job} {m : Nat} {l : Bs} {x : Jv × Nat × Bs} (h : run f j m l = .ok x) : run F j m l = .ok x := by
  rw [run_mono hf (by rw [h]; exact ok_not), h]
/-- rounds enough -/
def needJ : Job → Nat → Nat | .val _, n => 2 * n + 1 | .items _ _, n => 2 * n + 2 | .mems _ _ _, n => 2 * n + 2
theorem run_total : ∀ (f : Nat) (j : Job) (m : Nat) (l : Bs), needJ j l.length ≤ f → ¬ outR (run f j m l) := by
  intro f
  induction f with
  | zero => intro j m l h; cases j <;> simp [needJ] at h
  | succ f ih =>
    intro j m l hn
    rw [run_step]
    cases j with
    | val w =>
      simp only [needJ] at hn
      unfold stepJ
      simp only
      split
      · rintro ⟨r, h⟩; cases h
      · split
        · rintro ⟨r, h⟩; cases h
        · have hs := skip_le l
          split
          · rintro ⟨r, h⟩; cases h
          · rename_i c t hct
            rw [hct, List.length_cons] at hs
            have hs2 := skip_le t
            split
            · split
              · rename_i hr
                exact ih _ _ _ (by simp only [needJ, List.length_nil]; omega)
              · rename_i d r hr
                rw [hr, List.length_cons] at hs2
                split
                · exact ok_not
                · exact ih _ _ _ (by simp only [needJ, List.length_cons]; omega)
            · split
              · split
                · rename_i hr
                  exact ih _ _ _ (by simp only [needJ, List.length_nil]; omega)
                · rename_i d r hr
                  rw [hr, List.length_cons] at hs2
                  split
                  · exact ok_not
                  · exact ih _ _ _ (by simp only [needJ, List.length_cons]; omega)
              · exact leaf_err
    | items w acc =>
      simp only [needJ] at hn
      unfold stepJ
      simp only
      have h0 := ih (.val (w + 1)) m l (by simp only [needJ]; omega)
      cases hv : run f (.val (w + 1)) m l with
      | error e =>
        rw [hv] at h0
        exact h0
      | ok x =>
        obtain ⟨v, m', l'⟩ := x
        have hl := run_len _ _ _ _ _ _ _ hv
        have hs := skip_le l'
        simp only
        cases hs1 : skipB l' with
        | nil => rintro ⟨r, h⟩; cases h
        | cons c r =>
          rw [hs1, List.length_cons] at hs
          simp only
          split
          · exact ih _ _ _ (by simp only [needJ]; omega)
          · split
            · exact ok_not
            · rintro ⟨r, h⟩; cases h
    | mems w ks acc =>
      simp only [needJ] at hn
      unfold stepJ
      simp only
      have hs0 := skip_le l
      cases ht : textR (skipB l) with
      | error e =>
        rintro ⟨r, h⟩
        injection h with h
        subst h
        exact text_err ht rfl
      | ok x =>
        obtain ⟨k, l2⟩ := x
        have k0 := (text_len ht).1
        simp only
        split
        · rintro ⟨r, h⟩; cases h
        · have hs2 := skip_le l2
          cases hs3 : skipB l2 with
          | nil => rintro ⟨r, h⟩; cases h
          | cons c l3 =>
            rw [hs3, List.length_cons] at hs2
            simp only
            split
            · rintro ⟨r, h⟩; cases h
            · have h0 := ih (.val (w + 1)) m l3 (by simp only [needJ]; omega)
              cases hv : run f (.val (w + 1)) m l3 with
              | error e =>
                rw [hv] at h0
                exact h0
              | ok x =>
                obtain ⟨v, m', l'⟩ := x
                have hl := run_len _ _ _ _ _ _ _ hv
                have hs := skip_le l'
                simp only
                cases hs1 : skipB l' with
                | nil => rintro ⟨r, h⟩; cases h
                | cons c r =>
                  rw [hs1, List.length_cons] at hs
                  simp only
                  split
                  · exact ih _ _ _ (by simp only [needJ]; omega)
                  · split
                    · exact ok_not
                    · rintro ⟨r, h⟩; cases h
/-- whatever the rounds were with which a value was read: with enough of them it is the same -/
theorem run_enough {f F : Nat} {j : Job} {m : Nat} {l : Bs} {x : Jv × Nat × Bs} (h : run f j m l = .ok x) (hF : needJ j l.length ≤ F) : run F j m l = .ok x := by
  have h1 := run_mono (F := max f F) (Nat.le_max_right f F) (run_total F j m l hF)
  rw [← h1]
  exact run_lift (Nat.le_max_left f F) h
end Go.Proofs.YtnkhghjcfhpeiaaGreatDoor

/-
  JSON as lists alone: what is printed is read (L5); unlike right values have unlike texts.
-/
namespace Go.Proofs.YtnkhghjcfhpeiaaGreatDoor

theorem jn_head {c : UInt8} {t : Bs} (h : numberL (c :: t) ≠ 0) : c = 45 ∨ digB c = true := by
  obtain ⟨i, a, b, h1, h0, _, _, _⟩ := jn_parts h
  by_cases hc : c = 45
  · exact .inl hc
  · refine .inr ?_
    rw [show sgnL (c :: t) = 0 by rw [sgnL, if_neg hc], List.drop_zero, intL] at h1
    by_cases h2 : c = 48
    · rw [h2]; decide
    · rw [if_neg h2, digL] at h1
      cases hd : digB c with
      | true => rfl
      | false =>
        rw [hd, if_neg (by decide)] at h1
        exact absurd h1.symm h0
/-- the first byte of a right value's text -/
def headB (c : UInt8) : Bool := c = 34 || c = 45 || digB c || c = 91 || c = 123 || c = 110 || c = 102 || c = 116
theorem head_facts : ∀ c : UInt8, headB c = true → blankB c = false ∧ c ≠ 93 ∧ c ≠ 125 := by
  intro c h
  have hk : ∀ n : Fin 256, headB (UInt8.ofNat n.1) = true → blankB (UInt8.ofNat n.1) = false ∧ UInt8.ofNat n.1 ≠ 93 ∧ UInt8.ofNat n.1 ≠ 125 := by decide +kernel
  have := hk ⟨c.toNat, c.toNat_lt⟩
  rw [UInt8.ofNat_toNat] at this
  exact this h
theorem skip_hd {c : UInt8} {t : Bs} (h : blankB c = false) : skipB (c :: t) = c :: t := by
  rw [skipB, h]
  rfl
theorem quote_ok {t : Bs} (h : validL t = true) : (quoteQ t).1 = quoteL t := by rw [quoteQ, if_pos h]
theorem textR_quote {t : Bs} (h : validL t = true) (r : Bs) : textR (quoteL t ++ r) = .ok (t, r) := by
  have e := unq_quote h r
  unfold textR
  rw [if_pos (by rfl), e]
  simp only [if_true]
  rw [List.drop_left]
theorem empties {k : Int} {t : Bs} {ks : List Bs} {vs : List Jv} (h : shapeJ k t ks vs = true) : (k ≠ 7 → ks = []) ∧ (k < 6 → vs = []) ∧ (k ≠ 4 → k ≠ 5 → t = []) := by
  unfold shapeJ at h
  simp only [Bool.and_eq_true, Bool.or_eq_true, decide_eq_true_eq, List.isEmpty_iff] at h
  obtain ⟨⟨h1, h2⟩, h3⟩ := h
  exact ⟨fun h => h1.resolve_left h, fun h => h2.resolve_left (by omega), fun h4 h5 => h3.resolve_left (by omega)⟩
/-- the kinds of a right value -/
theorem right_cases {d : Nat} {k : Int} {t : Bs} {ks : List Bs} {vs : List Jv} (h : rightF d (.mk k t ks vs) = true) : ∃ e, d = e + 1 ∧
    ((k = 1 ∨ k = 2 ∨ k = 3) ∧ t = [] ∧ ks = [] ∧ vs = [] ∨ k = 4 ∧ numT t = true ∧ ks = [] ∧ vs = [] ∨ k = 5 ∧ validL t = true ∧ ks = [] ∧ vs = [] ∨ k = 6 ∧ t = [] ∧ ks = [] ∧ vs.all (rightF e) = true ∨
      k = 7 ∧ t = [] ∧ ks.length = vs.length ∧ vs.all (rightF e) = true ∧ ks.all validL = true ∧ apartL ks = true) := by
  cases d with
  | zero => cases h
  | succ e =>
    refine ⟨e, rfl, ?_⟩
    rw [rightF, Bool.and_eq_true] at h
    obtain ⟨hs, h⟩ := h
    obtain ⟨e1, e2, e3⟩ := empties hs
    split at h
    · rename_i h1
      exact .inl ⟨h1, e3 (by omega) (by omega), e1 (by omega), e2 (by omega)⟩
    · split at h
      · rename_i h1
        exact .inr (.inl ⟨h1, h, e1 (by omega), e2 (by omega)⟩)
      · split at h
        · rename_i h1
          exact .inr (.inr (.inl ⟨h1, h, e1 (by omega), e2 (by omega)⟩))
        · split at h
          · rename_i h1
            exact .inr (.inr (.inr (.inl ⟨h1, e3 (by omega) (by omega), e1 (by omega), h⟩)))
          · split at h
            · rename_i h1
              simp only [Bool.and_eq_true, decide_eq_true_eq] at h
              exact .inr (.inr (.inr (.inr ⟨h1, e3 (by omega) (by omega), h.1.1.1, h.1.1.2, h.1.2, h.2⟩)))
            · cases h
theorem text_head {d : Nat} {v : Jv} (h : rightF d v = true) : ∃ c t, textJ v = c :: t ∧ headB c = true := by
  obtain ⟨k, t, ks, vs⟩ := v
  obtain ⟨e, _, ⟨h1, rfl, rfl, rfl⟩ | ⟨rfl, h1, rfl, rfl⟩ | ⟨rfl, h1, rfl, rfl⟩ | ⟨rfl, rfl, rfl, h1⟩ | ⟨rfl, rfl, h1, h2, h3, h4⟩⟩ := right_cases h
  · rcases h1 with rfl | rfl | rfl
    · exact ⟨_, _, rfl, by decide⟩
    · exact ⟨_, _, rfl, by decide⟩
    · exact ⟨_, _, rfl, by decide⟩
  · unfold numT at h1
    rw [Bool.and_eq_true, decide_eq_true_eq] at h1
    cases t with
    | nil => cases h1.1
    | cons c t =>
      refine ⟨c, t, rfl, ?_⟩
      have := jn_head (c := c) (t := t) (by rw [h1.2]; simp)
      unfold headB
      rcases this with rfl | h
      · decide
      · simp [h]
  · refine ⟨34, t.flatMap qb ++ [34], ?_, by decide⟩
    show (quoteQ t).1 = _
    rw [quote_ok h1]
    rfl
  · exact ⟨_, _, rfl, by decide⟩
  · exact ⟨_, _, rfl, by decide⟩
theorem wJ {R : Job → Nat → Bs → Res} {w m : Nat} {c : UInt8} {t : Bs} (hw : ¬ 16 ≤ w) (hm : ¬ 500 ≤ m) (hc : blankB c = false) (h1 : c ≠ 91) (h2 : c ≠ 123) : stepJ R (.val w) m (c :: t) = leafR (m + 1) (c :: t) := by
  unfold stepJ
  simp only
  rw [if_neg hw, if_neg hm, skip_hd hc]
  simp only
  rw [if_neg h1, if_neg h2]
theorem stop_comma (r : Bs) : stopB (44 :: r) := .inr ⟨44, r, rfl, .inl rfl⟩
theorem stop_list (r : Bs) : stopB (93 :: r) := .inr ⟨93, r, rfl, .inr (.inl rfl)⟩
theorem stop_obj (r : Bs) : stopB (125 :: r) := .inr ⟨125, r, rfl, .inr (.inr rfl)⟩
theorem tail_join (l : List Bs) (h : l ≠ []) : tailC l = 44 :: joinC l := by
  cases l with
  | nil => exact absurd rfl h
  | cons x r => rfl
theorem nodes_pos (v : Jv) : 1 ≤ nodesJ v := by
  obtain ⟨k, t, ks, vs⟩ := v
  rw [nodesJ]
  omega

mutual
theorem back_v : ∀ (v : Jv) (d w m : Nat) (rest : Bs), w + d ≤ 16 → rightF d v = true → m + nodesJ v ≤ 500 → stopB rest → ∃ f, run f (.val w) m (textJ v ++ rest) = .ok (v, m + nodesJ v, rest)
  | .mk k t ks vs, d, w, m, rest, hw, hr, hm, hs => by
    obtain ⟨c0, t0, hct, hch⟩ := text_head hr
    obtain ⟨hb, _, _⟩ := head_facts c0 hch
    have hn1 := nodes_pos (.mk k t ks vs)
    obtain ⟨e, rfl, ⟨h1, rfl, rfl, rfl⟩ | ⟨rfl, h1, rfl, rfl⟩ | ⟨rfl, h1, rfl, rfl⟩ | ⟨rfl, rfl, rfl, h1⟩ | ⟨rfl, rfl, h1, h2, h3, h4⟩⟩ := right_cases hr
    · refine ⟨1, ?_⟩
      rw [run_step]
      rcases h1 with rfl | rfl | rfl
      · show stepJ _ _ _ (110 :: ([117, 108, 108] ++ rest)) = _
        rw [wJ (by omega) (by omega) (by decide) (by decide) (by decide)]
        rfl
      · show stepJ _ _ _ (102 :: ([97, 108, 115, 101] ++ rest)) = _
        rw [wJ (by omega) (by omega) (by decide) (by decide) (by decide)]
        rfl
      · show stepJ _ _ _ (116 :: ([114, 117, 101] ++ rest)) = _
        rw [wJ (by omega) (by omega) (by decide) (by decide) (by decide)]
        rfl
    · refine ⟨1, ?_⟩
      have ht : textJ (.mk 4 t [] []) = t := rfl
      rw [ht] at hct
      unfold numT at h1
      rw [Bool.and_eq_true, decide_eq_true_eq] at h1
      have hne : numberL t ≠ 0 := by rw [h1.2, hct]; simp
      have hap := jn_app hs hne h1.2
      have hhd := jn_head (by rw [← hct]; exact hne)
      have hL : t ++ rest = c0 :: (t0 ++ rest) := by rw [hct]; rfl
      have n34 : ¬ c0 = 34 := by rintro rfl; rcases hhd with h | h <;> cases h
      rw [run_step, ht, hL, wJ (by omega) (by omega) hb (by rintro rfl; rcases hhd with h | h <;> cases h) (by rintro rfl; rcases hhd with h | h <;> cases h)]
      unfold leafR
      simp only
      rw [if_neg n34, if_pos hhd, ← hL, hap, if_neg (by rw [hct]; simp), List.take_left, List.drop_left]
      rfl
    · refine ⟨1, ?_⟩
      have ht : textJ (.mk 5 t [] []) = quoteL t := quote_ok h1
      have hq := textR_quote h1 rest
      rw [run_step, ht]
      rw [show quoteL t ++ rest = 34 :: (t.flatMap qb ++ [34] ++ rest) from rfl] at hq ⊢
      rw [wJ (by omega) (by omega) (by decide) (by decide) (by decide)]
      unfold leafR
      simp only
      rw [if_pos trivial, hq]
      rfl
    · have ht : textJ (.mk 6 [] [] vs) ++ rest = 91 :: (joinC (textsJ vs) ++ 93 :: rest) := by
        show 91 :: (joinC (textsJ vs) ++ [93]) ++ rest = _
        simp
      have hnn : nodesJ (.mk 6 [] [] vs) = nodesL vs + 1 := by rw [nodesJ]
      rw [ht, hnn]
      rw [hnn] at hm
      cases hvs : vs with
      | nil =>
        subst hvs
        refine ⟨1, ?_⟩
        rw [run_step]
        unfold stepJ
        simp only
        rw [if_neg (by omega), if_neg (by omega), skip_hd (by decide)]
        simp only
        rw [if_pos trivial]
        rw [show joinC (textsJ []) ++ 93 :: rest = 93 :: rest from rfl, skip_hd (by decide)]
        rfl
      | cons v r =>
        rw [← hvs]
        obtain ⟨f, hf⟩ := back_items vs e w (m + 1) [] rest (by rw [hvs]; simp) (by omega) h1 (by omega)
        obtain ⟨c1, t1, hc1, hh1⟩ := text_head (d := e) (v := v) (by rw [hvs, List.all_cons, Bool.and_eq_true] at h1; exact h1.1)
        obtain ⟨k1, k2, _⟩ := head_facts c1 hh1
        have hj : ∃ t2, joinC (textsJ vs) ++ 93 :: rest = c1 :: t2 := by
          rw [hvs]
          show ∃ t2, (textJ v ++ tailC (textsJ r)) ++ 93 :: rest = c1 :: t2
          rw [hc1]
          exact ⟨_, rfl⟩
        obtain ⟨t2, ht2⟩ := hj
        refine ⟨f + 1, ?_⟩
        rw [run_step]
        unfold stepJ
        simp only
        rw [if_neg (by omega), if_neg (by omega), skip_hd (by decide)]
        simp only
        rw [if_pos trivial, ht2, skip_hd k1]
        simp only
        rw [if_neg k2, ← ht2, hf]
        rw [List.nil_append, show m + 1 + nodesL vs = m + (nodesL vs + 1) by omega]
    · have ht : textJ (.mk 7 [] ks vs) ++ rest = 123 :: (joinC (List.zipWith membC ks (textsJ vs)) ++ 125 :: rest) := by
        show 123 :: (joinC (List.zipWith membC ks (textsJ vs)) ++ [125]) ++ rest = _
        simp
      have hnn : nodesJ (.mk 7 [] ks vs) = nodesL vs + 1 := by rw [nodesJ]
      rw [ht, hnn]
      rw [hnn] at hm
      cases hvs : vs with
      | nil =>
        subst hvs
        have hks : ks = [] := List.eq_nil_of_length_eq_zero (by rw [h1]; rfl)
        subst hks
        refine ⟨1, ?_⟩
        rw [run_step]
        unfold stepJ
        simp only
        rw [if_neg (by omega), if_neg (by omega), skip_hd (by decide)]
        simp only
        rw [if_neg (by decide), if_pos trivial]
        rw [show joinC (List.zipWith membC [] (textsJ [])) ++ 125 :: rest = 125 :: rest from rfl, skip_hd (by decide)]
        rfl
      | cons v r =>
        rw [← hvs]
        obtain ⟨f, hf⟩ := back_mems vs e w (m + 1) ks [] [] rest (by rw [hvs]; simp) (by omega) h1 h2 h3 h4 (fun _ _ => by simp) (by omega)
        obtain ⟨kk, kr, hkk⟩ : ∃ kk kr, ks = kk :: kr := by
          cases ks with
          | nil => rw [hvs] at h1; cases h1
          | cons a b => exact ⟨a, b, rfl⟩
        have hkv : validL kk = true := by rw [hkk, List.all_cons, Bool.and_eq_true] at h3; exact h3.1
        have hj : ∃ t2, joinC (List.zipWith membC ks (textsJ vs)) ++ 125 :: rest = 34 :: t2 := by
          rw [hvs, hkk]
          show ∃ t2, ((quoteQ kk).1 ++ 58 :: textJ v ++ tailC (List.zipWith membC kr (textsJ r))) ++ 125 :: rest = 34 :: t2
          rw [quote_ok hkv]
          exact ⟨_, rfl⟩
        obtain ⟨t2, ht2⟩ := hj
        refine ⟨f + 1, ?_⟩
        rw [run_step]
        unfold stepJ
        simp only
        rw [if_neg (by omega), if_neg (by omega), skip_hd (by decide)]
        simp only
        rw [if_neg (by decide), if_pos trivial, ht2, skip_hd (by decide)]
        simp only
        rw [if_neg (by decide), ← ht2, hf]
        rw [List.nil_append, List.nil_append, show m + 1 + nodesL vs = m + (nodesL vs + 1) by omega]
theorem back_items : ∀ (vs : List Jv) (d w m : Nat) (acc : List Jv) (rest : Bs), vs ≠ [] → w + 1 + d ≤ 16 → vs.all (rightF d) = true → m + nodesL vs ≤ 500 → ∃ f, run f (.items w acc) m (joinC (textsJ vs) ++ 93 :: rest) = .ok (.mk 6 [] [] (acc ++ vs), m + nodesL vs, rest)
  | [], d, w, m, acc, rest, hne, hw, hr, hm => absurd rfl hne
  | v :: r, d, w, m, acc, rest, hne, hw, hr, hm => by
    rw [List.all_cons, Bool.and_eq_true] at hr
    have hnn : nodesL (v :: r) = nodesJ v + nodesL r := by rw [nodesL]
    rw [hnn] at hm ⊢
    cases hrr : r with
    | nil =>
      subst hrr
      obtain ⟨f, hf⟩ := back_v v d (w + 1) m (93 :: rest) (by omega) hr.1 (by omega) (stop_list rest)
      refine ⟨f + 1, ?_⟩
      rw [run_step]
      show stepJ _ _ _ ((textJ v ++ []) ++ 93 :: rest) = _
      rw [List.append_nil]
      unfold stepJ
      simp only
      rw [hf]
      simp only
      rw [skip_hd (by decide)]
      rfl
    | cons v2 r2 =>
      obtain ⟨f2, hf2⟩ := back_items r d w (m + nodesJ v) (acc ++ [v]) rest (by rw [hrr]; simp) hw hr.2 (by omega)
      obtain ⟨f1, hf1⟩ := back_v v d (w + 1) m (44 :: (joinC (textsJ r) ++ 93 :: rest)) (by omega) hr.1 (by omega) (stop_comma _)
      rw [← hrr]
      refine ⟨max f1 f2 + 1, ?_⟩
      have ej : joinC (textsJ (v :: r)) ++ 93 :: rest = textJ v ++ 44 :: (joinC (textsJ r) ++ 93 :: rest) := by
        show (textJ v ++ tailC (textsJ r)) ++ 93 :: rest = _
        rw [tail_join _ (by rw [hrr]; simp [textsJ])]
        simp
      rw [run_step, ej]
      unfold stepJ
      simp only
      rw [run_lift (Nat.le_max_left f1 f2) hf1]
      simp only
      rw [skip_hd (by decide)]
      simp only
      rw [if_pos trivial, run_lift (Nat.le_max_right f1 f2) hf2]
      rw [List.append_assoc, show m + nodesJ v + nodesL r = m + (nodesJ v + nodesL r) by omega]
      rfl
theorem back_mems : ∀ (vs : List Jv) (d w m : Nat) (ks ks0 : List Bs) (acc : List Jv) (rest : Bs), vs ≠ [] → w + 1 + d ≤ 16 → ks.length = vs.length → vs.all (rightF d) = true → ks.all validL = true → apartL ks = true → (∀ k ∈ ks, ks0.contains k = false) → m + nodesL vs ≤ 500 →
    ∃ f, run f (.mems w ks0 acc) m (joinC (List.zipWith membC ks (textsJ vs)) ++ 125 :: rest) = .ok (.mk 7 [] (ks0 ++ ks) (acc ++ vs), m + nodesL vs, rest)
  | [], d, w, m, ks, ks0, acc, rest, hne, hw, hl, hr, hv, ha, hk, hm => absurd rfl hne
  | v :: r, d, w, m, ks, ks0, acc, rest, hne, hw, hl, hr, hv, ha, hk, hm => by
    rw [List.all_cons, Bool.and_eq_true] at hr
    have hnn : nodesL (v :: r) = nodesJ v + nodesL r := by rw [nodesL]
    rw [hnn] at hm ⊢
    cases hks : ks with
    | nil => rw [hks] at hl; cases hl
    | cons k kr =>
      rw [hks] at hl hv ha hk
      rw [List.all_cons, Bool.and_eq_true] at hv
      rw [apartL, Bool.and_eq_true, Bool.not_eq_true'] at ha
      simp only [List.length_cons] at hl
      have hk0 := hk k (by simp)
      cases hrr : r with
      | nil =>
        subst hrr
        have hkr : kr = [] := List.eq_nil_of_length_eq_zero (by simp at hl; rw [hl]; rfl)
        subst hkr
        obtain ⟨f, hf⟩ := back_v v d (w + 1) m (125 :: rest) (by omega) hr.1 (by omega) (stop_obj rest)
        refine ⟨f + 1, ?_⟩
        have ej : joinC (List.zipWith membC [k] (textsJ [v])) ++ 125 :: rest = quoteL k ++ 58 :: (textJ v ++ 125 :: rest) := by
          show ((quoteQ k).1 ++ 58 :: textJ v ++ []) ++ 125 :: rest = _
          rw [quote_ok hv.1]
          simp
        rw [run_step, ej]
        have hq := textR_quote hv.1 (58 :: (textJ v ++ 125 :: rest))
        have hsk : skipB (quoteL k ++ 58 :: (textJ v ++ 125 :: rest)) = quoteL k ++ 58 :: (textJ v ++ 125 :: rest) := skip_hd (by decide)
        unfold stepJ
        simp only
        rw [hsk, hq]
        simp only
        rw [hk0, if_neg (by decide), skip_hd (by decide)]
        simp only
        rw [if_neg (by simp), hf]
        simp only
        rw [skip_hd (by decide)]
        rfl
      | cons v2 r2 =>
        obtain ⟨f2, hf2⟩ := back_mems r d w (m + nodesJ v) kr (ks0 ++ [k]) (acc ++ [v]) rest (by rw [hrr]; simp) hw (by omega) hr.2 hv.2 ha.2 (fun x hx => by
          have h1 := hk x (List.mem_cons_of_mem _ hx)
          have h2 : x ≠ k := by rintro rfl; simp at ha; exact ha.1 hx
          simp at h1 ⊢
          exact ⟨h1, h2⟩) (by omega)
        obtain ⟨f1, hf1⟩ := back_v v d (w + 1) m (44 :: (joinC (List.zipWith membC kr (textsJ r)) ++ 125 :: rest)) (by omega) hr.1 (by omega) (stop_comma _)
        rw [← hrr]
        refine ⟨max f1 f2 + 1, ?_⟩
        have ej : joinC (List.zipWith membC (k :: kr) (textsJ (v :: r))) ++ 125 :: rest = quoteL k ++ 58 :: (textJ v ++ 44 :: (joinC (List.zipWith membC kr (textsJ r)) ++ 125 :: rest)) := by
          show ((quoteQ k).1 ++ 58 :: textJ v ++ tailC (List.zipWith membC kr (textsJ r))) ++ 125 :: rest = _
          rw [quote_ok hv.1, tail_join _ (by
            rw [hrr] at hl ⊢
            cases kr with
            | nil => cases hl
            | cons a b => simp [textsJ])]
          simp
        rw [run_step, ej]
        have hq := textR_quote hv.1 (58 :: (textJ v ++ 44 :: (joinC (List.zipWith membC kr (textsJ r)) ++ 125 :: rest)))
        have hsk : skipB (quoteL k ++ 58 :: (textJ v ++ 44 :: (joinC (List.zipWith membC kr (textsJ r)) ++ 125 :: rest))) = quoteL k ++ 58 :: (textJ v ++ 44 :: (joinC (List.zipWith membC kr (textsJ r)) ++ 125 :: rest)) := skip_hd (by decide)
        unfold stepJ
        simp only
        rw [hsk, hq]
        simp only
        rw [hk0, if_neg (by decide), skip_hd (by decide)]
        simp only
        rw [if_neg (by simp), run_lift (Nat.le_max_left f1 f2) hf1]
        simp only
        rw [skip_hd (by decide)]
        simp only
        rw [if_pos trivial, run_lift (Nat.le_max_right f1 f2) hf2]
        rw [List.append_assoc, List.append_assoc, show m + nodesJ v + nodesL r = m + (nodesJ v + nodesL r) by omega]
        rfl
end
/-- L5: what is printed is read -/
theorem jparse_print {v : Jv} (h : rightJ v = true) (hl : (textJ v).length ≤ 4000) : parseJ (textJ v) = (v, 0, 0) := by
  unfold rightJ at h
  rw [Bool.and_eq_true, decide_eq_true_eq] at h
  obtain ⟨f, hf⟩ := back_v v 16 0 0 [] (by omega) h.2 (by omega) (.inl rfl)
  rw [List.append_nil] at hf
  have h2 := run_enough (F := 2 * (textJ v).length + 1) hf (by simp [needJ])
  unfold parseJ
  rw [if_neg (by omega), h2]
  rfl
/-- L5: right values that have the same text are the same -/
theorem text_inj {v u : Jv} (hv : rightJ v = true) (hu : rightJ u = true) (h : textJ v = textJ u) : v = u := by
  unfold rightJ at hv hu
  rw [Bool.and_eq_true, decide_eq_true_eq] at hv hu
  obtain ⟨f, hf⟩ := back_v v 16 0 0 [] (by omega) hv.2 (by omega) (.inl rfl)
  obtain ⟨g, hg⟩ := back_v u 16 0 0 [] (by omega) hu.2 (by omega) (.inl rfl)
  have h1 := run_lift (Nat.le_max_left f g) hf
  have h2 := run_lift (Nat.le_max_right f g) hg
  rw [h, h2] at h1
  injection h1 with h1
  exact (Prod.mk.inj h1).1.symm
end Go.Proofs.YtnkhghjcfhpeiaaGreatDoor
