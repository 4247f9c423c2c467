/-
  Lists alone: what each call of the header fields computes.
-/
import Derived.Lib.SlTrimSet
namespace Go.Proofs.YtmogeehhlfjlcaaDoor

abbrev Bs := List UInt8
def marks : Bs := [33, 35, 36, 37, 38, 39, 42, 43, 45, 46, 94, 95, 96, 124, 126]
def alnum (n : Nat) : Bool := decide (97 ≤ n ∧ n ≤ 122 ∨ 65 ≤ n ∧ n ≤ 90 ∨ 48 ≤ n ∧ n ≤ 57)
def nameC (c : UInt8) : Bool := alnum c.toNat || marks.contains c
def nameB (l : Bs) : Bool := decide (1 ≤ l.length) && decide (l.length ≤ 40) && l.all nameC
def valC (c : UInt8) : Bool := decide (c.toNat = 9 ∨ 32 ≤ c.toNat ∧ c.toNat ≤ 126)
def blks : Bs := [32, 9]
def bl (c : UInt8) : Bool := blks.contains c
def trimL (l : Bs) : Bs := Lib.trimS l blks
def valueB (l : Bs) : Bool := decide (l.length ≤ 200) && decide (trimL l = l) && l.all valC
def lowC (c : UInt8) : UInt8 := if 65 ≤ c.toNat ∧ c.toNat ≤ 90 then c + 32 else c
def lowerL (l : Bs) : Bs := l.map lowC
def befL (c : UInt8) (l : Bs) : Bs := l.takeWhile (· != c)
def aftL (c : UInt8) (l : Bs) : Bs := (l.dropWhile (· != c)).drop 1
def parse3 (l : Bs) : Bs × Bs × Int :=
  if l.contains 58 = true ∧ nameB (befL 58 l) = true ∧ valueB (trimL (aftL 58 l)) = true then (befL 58 l, trimL (aftL 58 l), 0) else ([], [], 21)
def splitA (acc : Bs) : Bs → List Bs
  | [] => [acc]
  | x :: r => if x = 44 then acc :: splitA [] r else splitA (acc ++ [x]) r
def itemsP (ps : List Bs) : List Bs := (ps.map fun p => lowerL (trimL p)).filter fun x => !x.isEmpty
def itemsL (l : Bs) : List Bs := itemsP (splitA [] l)

/-- from the end -/
def rdrop (l : Bs) : Bs := (l.reverse.dropWhile bl).reverse
theorem trim_eq (l : Bs) : trimL l = (rdrop l).dropWhile bl := rfl
theorem rdrop_nil : rdrop [] = [] := rfl
theorem rdrop_cons (x : UInt8) (l : Bs) : rdrop (x :: l) = if rdrop l = [] then (if bl x = true then [] else [x]) else x :: rdrop l := by
  unfold rdrop
  rw [List.reverse_cons, List.dropWhile_append]
  cases hd : l.reverse.dropWhile bl with
  | nil =>
    simp only [List.isEmpty_nil, ↓reduceIte, List.reverse_nil]
    cases hb : bl x <;> simp [List.dropWhile, hb]
  | cons a r => simp
theorem drop_idem (l : Bs) : (l.dropWhile bl).dropWhile bl = l.dropWhile bl := by
  induction l with
  | nil => rfl
  | cons x r ih =>
    cases hb : bl x with
    | true => rw [List.dropWhile_cons_of_pos hb]; exact ih
    | false => rw [List.dropWhile_cons_of_neg (by simp [hb]), List.dropWhile_cons_of_neg (by simp [hb])]
theorem rdrop_idem (l : Bs) : rdrop (rdrop l) = rdrop l := by
  unfold rdrop
  rw [List.reverse_reverse, drop_idem]
theorem comm (l : Bs) : (rdrop l).dropWhile bl = rdrop (l.dropWhile bl) := by
  induction l with
  | nil => rfl
  | cons x r ih =>
    cases hb : bl x with
    | true =>
      rw [List.dropWhile_cons_of_pos hb, ← ih, rdrop_cons]
      by_cases he : rdrop r = []
      · rw [if_pos he, if_pos hb, he]
      · rw [if_neg he, List.dropWhile_cons_of_pos hb]
    | false =>
      rw [List.dropWhile_cons_of_neg (by simp [hb]), rdrop_cons]
      by_cases he : rdrop r = []
      · rw [if_pos he, if_neg (by simp [hb]), List.dropWhile_cons_of_neg (by simp [hb])]
      · rw [if_neg he, List.dropWhile_cons_of_neg (by simp [hb])]
theorem trim_eq' (l : Bs) : trimL l = rdrop (l.dropWhile bl) := by rw [trim_eq, comm]
theorem trim_idem (l : Bs) : trimL (trimL l) = trimL l := by
  rw [trim_eq' (trimL l), trim_eq l, drop_idem, comm, rdrop_idem]
theorem trim_blank {x : UInt8} (h : bl x = true) (l : Bs) : trimL (x :: l) = trimL l := by
  rw [trim_eq', trim_eq', List.dropWhile_cons_of_pos h]
theorem trim_end {x : UInt8} (h : bl x = true) (l : Bs) : trimL (l ++ [x]) = trimL l := by
  rw [trim_eq, trim_eq]
  have : rdrop (l ++ [x]) = rdrop l := by
    unfold rdrop
    rw [List.reverse_append]
    show ((x :: l.reverse).dropWhile bl).reverse = _
    rw [List.dropWhile_cons_of_pos h]
  rw [this]
theorem dropWhile_len (p : UInt8 → Bool) (l : Bs) : (l.dropWhile p).length ≤ l.length := by
  induction l with
  | nil => simp
  | cons x r ih =>
    cases h : p x with
    | true => rw [List.dropWhile_cons_of_pos h]; simp; omega
    | false => rw [List.dropWhile_cons_of_neg (by simp [h])]; simp
theorem trim_len (l : Bs) : (trimL l).length ≤ l.length := by
  rw [trim_eq]
  refine Nat.le_trans (dropWhile_len _ _) ?_
  unfold rdrop
  rw [List.length_reverse]
  refine Nat.le_trans (dropWhile_len _ _) ?_
  simp

theorem low_len (l : Bs) : (lowerL l).length = l.length := by simp [lowerL]
theorem lowC_idem : ∀ c : UInt8, lowC (lowC c) = lowC c := by
  intro c
  have h : ∀ n : Fin 256, lowC (lowC (UInt8.ofNat n.1)) = lowC (UInt8.ofNat n.1) := by decide +kernel
  have := h ⟨c.toNat, c.toNat_lt⟩
  simpa using this
theorem lowC_bl : ∀ c : UInt8, bl (lowC c) = bl c := by
  intro c
  have h : ∀ n : Fin 256, bl (lowC (UInt8.ofNat n.1)) = bl (UInt8.ofNat n.1) := by decide +kernel
  have := h ⟨c.toNat, c.toNat_lt⟩
  simpa using this
theorem lowC_comma : ∀ c : UInt8, decide (lowC c = 44) = decide (c = 44) := by
  intro c
  have h : ∀ n : Fin 256, decide (lowC (UInt8.ofNat n.1) = 44) = decide (UInt8.ofNat n.1 = 44) := by decide +kernel
  have := h ⟨c.toNat, c.toNat_lt⟩
  simpa using this
theorem nameC_colon : nameC 58 = false := by decide +kernel
theorem lower_idem (l : Bs) : lowerL (lowerL l) = lowerL l := by
  unfold lowerL
  rw [List.map_map]
  exact List.map_congr_left fun c _ => lowC_idem c
theorem lower_drop (l : Bs) : (lowerL l).dropWhile bl = lowerL (l.dropWhile bl) := by
  induction l with
  | nil => rfl
  | cons x r ih =>
    show (lowC x :: lowerL r).dropWhile bl = _
    cases hb : bl x with
    | true => rw [List.dropWhile_cons_of_pos (a := lowC x) (by rw [lowC_bl]; exact hb), List.dropWhile_cons_of_pos hb, ih]
    | false =>
      have hl : ¬ bl (lowC x) = true := by rw [lowC_bl, hb]; exact Bool.false_ne_true
      rw [List.dropWhile_cons_of_neg hl, List.dropWhile_cons_of_neg (a := x) (by simp [hb])]
      rfl
theorem lower_rev (l : Bs) : (lowerL l).reverse = lowerL l.reverse := by simp [lowerL]
theorem trim_lower (l : Bs) : trimL (lowerL l) = lowerL (trimL l) := by
  rw [trim_eq, trim_eq]
  unfold rdrop
  rw [lower_rev, lower_drop, lower_rev, lower_drop]

theorem splitA_acc (acc l : Bs) : ∃ p ps, splitA [] l = p :: ps ∧ splitA acc l = (acc ++ p) :: ps := by
  induction l generalizing acc with
  | nil => exact ⟨[], [], rfl, by simp [splitA]⟩
  | cons x r ih =>
    by_cases h : x = 44
    · subst h
      exact ⟨[], splitA [] r, by simp [splitA], by simp [splitA]⟩
    · obtain ⟨p, ps, h1, h2⟩ := ih [x]
      obtain ⟨p', ps', h1', h2'⟩ := ih (acc ++ [x])
      rw [h1] at h1'
      obtain ⟨rfl, rfl⟩ := List.cons.inj h1'
      refine ⟨x :: p, ps, ?_, ?_⟩
      · rw [splitA, if_neg h, List.nil_append, h2]
        rfl
      · rw [splitA, if_neg h, h2']
        simp
theorem split_app (acc a b : Bs) : splitA acc (a ++ 44 :: b) = splitA acc a ++ splitA [] b := by
  induction a generalizing acc with
  | nil => simp [splitA]
  | cons x r ih =>
    by_cases h : x = 44
    · subst h
      simp [splitA, ih]
    · rw [List.cons_append, splitA, if_neg h, splitA, if_neg h, ih]
theorem itemsP_app (p q : List Bs) : itemsP (p ++ q) = itemsP p ++ itemsP q := by simp [itemsP]
theorem items_app (a b : Bs) : itemsL (a ++ 44 :: b) = itemsL a ++ itemsL b := by
  unfold itemsL
  rw [split_app, itemsP_app]
theorem split_lower (acc l : Bs) : splitA (lowerL acc) (lowerL l) = (splitA acc l).map lowerL := by
  induction l generalizing acc with
  | nil => rfl
  | cons x r ih =>
    show splitA (lowerL acc) (lowC x :: lowerL r) = _
    have hx := lowC_comma x
    by_cases h : x = 44
    · rw [decide_eq_true h, decide_eq_true_eq] at hx
      rw [splitA, if_pos hx, splitA, if_pos h]
      show _ :: splitA (lowerL []) (lowerL r) = _
      rw [ih]
      rfl
    · rw [decide_eq_false h, decide_eq_false_iff_not] at hx
      rw [splitA, if_neg hx, splitA, if_neg h, ← ih]
      simp [lowerL]
theorem items_lower (l : Bs) : itemsL (lowerL l) = itemsL l := by
  unfold itemsL
  have := split_lower [] l
  rw [show lowerL [] = [] from rfl] at this
  rw [this]
  unfold itemsP
  rw [List.map_map]
  congr 1
  refine List.map_congr_left fun p _ => ?_
  show lowerL (trimL (lowerL p)) = _
  rw [trim_lower, lower_idem]
theorem itemsP_cons (p : Bs) (ps : List Bs) : itemsP (p :: ps) = itemsP [p] ++ itemsP ps := itemsP_app [p] ps
theorem items_blank {x : UInt8} (h : bl x = true) (l : Bs) : itemsL (x :: l) = itemsL l := by
  obtain ⟨p, ps, h1, h2⟩ := splitA_acc [x] l
  have hx : x ≠ 44 := by rintro rfl; revert h; decide
  unfold itemsL
  rw [splitA, if_neg hx, List.nil_append, h2, h1, itemsP_cons, itemsP_cons p]
  congr 1
  unfold itemsP
  simp only [List.map_cons, List.cons_append, List.nil_append, trim_blank h]
theorem split_end {x : UInt8} (hx : x ≠ 44) (acc l : Bs) : ∃ ps p, splitA acc l = ps ++ [p] ∧ splitA acc (l ++ [x]) = ps ++ [p ++ [x]] := by
  induction l generalizing acc with
  | nil => exact ⟨[], acc, rfl, by simp [splitA, hx]⟩
  | cons y r ih =>
    by_cases h : y = 44
    · obtain ⟨ps, p, h1, h2⟩ := ih []
      refine ⟨acc :: ps, p, ?_, ?_⟩
      · rw [splitA, if_pos h, h1]; rfl
      · rw [List.cons_append, splitA, if_pos h, h2]; rfl
    · obtain ⟨ps, p, h1, h2⟩ := ih (acc ++ [y])
      refine ⟨ps, p, ?_, ?_⟩
      · rw [splitA, if_neg h, h1]
      · rw [List.cons_append, splitA, if_neg h, h2]
theorem items_end {x : UInt8} (h : bl x = true) (l : Bs) : itemsL (l ++ [x]) = itemsL l := by
  have hx : x ≠ 44 := by rintro rfl; revert h; decide
  obtain ⟨ps, p, h1, h2⟩ := split_end hx [] l
  unfold itemsL
  rw [h1, h2, itemsP_app, itemsP_app]
  congr 1
  unfold itemsP
  simp only [List.map_cons, List.map_nil, trim_end h]
theorem items_dw (l : Bs) : itemsL (l.dropWhile bl) = itemsL l := by
  induction l with
  | nil => rfl
  | cons x r ih =>
    cases hb : bl x with
    | true => rw [List.dropWhile_cons_of_pos hb, ih, items_blank hb]
    | false => rw [List.dropWhile_cons_of_neg (by simp [hb])]
theorem items_rdw (l : Bs) : itemsL (l.dropWhile bl).reverse = itemsL l.reverse := by
  induction l with
  | nil => rfl
  | cons x r ih =>
    cases hb : bl x with
    | true => rw [List.dropWhile_cons_of_pos hb, ih, List.reverse_cons, items_end hb]
    | false => rw [List.dropWhile_cons_of_neg (by simp [hb])]
theorem items_trim (l : Bs) : itemsL (trimL l) = itemsL l := by
  rw [trim_eq, items_dw]
  unfold rdrop
  rw [items_rdw, List.reverse_reverse]

theorem bef_app {a : Bs} (h : ∀ c ∈ a, c ≠ 58) (r : Bs) : befL 58 (a ++ 58 :: r) = a ∧ aftL 58 (a ++ 58 :: r) = r := by
  induction a with
  | nil => exact ⟨by simp [befL], by simp [aftL]⟩
  | cons x a ih =>
    have hx : (x != 58) = true := by simpa using h x (by simp)
    obtain ⟨h1, h2⟩ := ih fun c hc => h c (by simp [hc])
    constructor
    · unfold befL at h1 ⊢
      rw [List.cons_append, List.takeWhile_cons_of_pos (p := (· != _)) hx, h1]
    · unfold aftL at h2 ⊢
      rw [List.cons_append, List.dropWhile_cons_of_pos (p := (· != _)) hx, h2]
theorem name_colon {a : Bs} (h : nameB a = true) : ∀ c ∈ a, c ≠ 58 := by
  intro c hc he
  subst he
  unfold nameB at h
  simp only [Bool.and_eq_true, List.all_eq_true] at h
  have := h.2 58 hc
  rw [nameC_colon] at this
  cases this
theorem value_trim {v : Bs} (h : valueB v = true) : trimL v = v := by
  unfold valueB at h
  simp only [Bool.and_eq_true, decide_eq_true_eq] at h
  exact h.1.2
theorem value_len {v : Bs} (h : valueB v = true) : v.length ≤ 200 := by
  unfold valueB at h
  simp only [Bool.and_eq_true, decide_eq_true_eq] at h
  exact h.1.1
theorem name_len {v : Bs} (h : nameB v = true) : v.length ≤ 40 := by
  unfold nameB at h
  simp only [Bool.and_eq_true, decide_eq_true_eq] at h
  exact h.1.2
/-- E6 -/
theorem parse_back {n v : Bs} (hn : nameB n = true) (hv : valueB v = true) : parse3 (n ++ 58 :: 32 :: v) = (n, v, 0) := by
  obtain ⟨h1, h2⟩ := bef_app (name_colon hn) (32 :: v)
  have h3 : trimL (32 :: v) = v := by rw [trim_blank (by decide)]; exact value_trim hv
  unfold parse3
  rw [h1, h2, h3, if_pos ⟨by simp, hn, hv⟩]
theorem parse_cases (l : Bs) : (∃ n v, parse3 l = (n, v, 0) ∧ nameB n = true ∧ valueB v = true) ∨ parse3 l = ([], [], 21) := by
  unfold parse3
  split
  · next h => exact .inl ⟨_, _, rfl, h.2.1, h.2.2⟩
  · exact .inr rfl

/-- the parts, one after the other -/
theorem split_cut (l : Bs) : splitA [] l = if l.contains 44 = true then befL 44 l :: splitA [] (aftL 44 l) else [l] := by
  have key : ∀ acc, splitA acc l = if l.contains 44 = true then (acc ++ befL 44 l) :: splitA [] (aftL 44 l) else [acc ++ l] := by
    induction l with
    | nil => intro acc; simp [splitA]
    | cons x r ih =>
      intro acc
      by_cases h : x = 44
      · subst h
        simp [splitA, befL, aftL]
      · have hx : (x != 44) = true := by simpa using h
        have hc : (x :: r).contains 44 = r.contains 44 := by
          rw [List.contains_cons]
          have : ((44 : UInt8) == x) = false := by
            rw [beq_eq_false_iff_ne]
            exact fun e => h e.symm
          rw [this, Bool.false_or]
        have e1 : befL 44 (x :: r) = x :: befL 44 r := by unfold befL; rw [List.takeWhile_cons_of_pos (p := (· != _)) hx]
        have e2 : aftL 44 (x :: r) = aftL 44 r := by unfold aftL; rw [List.dropWhile_cons_of_pos (p := (· != _)) hx]
        rw [splitA, if_neg h, ih, hc, e1, e2]
        simp
  simpa using key []
theorem aft_len (c : UInt8) (l : Bs) (h : l.contains c = true) : (aftL c l).length < l.length := by
  unfold aftL
  induction l with
  | nil => simp at h
  | cons x r ih =>
    by_cases hx : x = c
    · subst hx
      simp
    · have hp : (x != c) = true := by simpa using hx
      rw [List.dropWhile_cons_of_pos (p := (· != _)) hp]
      have hc : r.contains c = true := by
        rw [List.contains_cons] at h
        have : (c == x) = false := by rw [beq_eq_false_iff_ne]; exact fun e => hx e.symm
        rw [this, Bool.false_or] at h
        exact h
      have := ih hc
      simp only [List.length_cons]
      omega
theorem bef_len (c : UInt8) (l : Bs) : (befL c l).length ≤ l.length := by
  unfold befL
  induction l with
  | nil => simp
  | cons x r ih =>
    cases h : x != c with
    | true => rw [List.takeWhile_cons_of_pos (p := (· != _)) h]; simp; omega
    | false => rw [List.takeWhile_cons_of_neg (p := (· != _)) (by simp [h])]; simp
theorem split_len (acc l : Bs) : (splitA acc l).length ≤ l.length + 1 := by
  induction l generalizing acc with
  | nil => simp [splitA]
  | cons x r ih =>
    by_cases h : x = 44
    · rw [splitA, if_pos h]
      have := ih []
      simp
      omega
    · rw [splitA, if_neg h]
      have := ih (acc ++ [x])
      simp
      omega
theorem items_len (l : Bs) : (itemsL l).length ≤ l.length + 1 := by
  unfold itemsL itemsP
  refine Nat.le_trans (List.length_filter_le _ _) ?_
  rw [List.length_map]
  exact split_len _ _

/-- what the place of the first c tells -/
theorem cut_at {c : UInt8} {l : Bs} {k : Nat} (hk : l[k]? = some c) (hn : ∀ j, j < k → l[j]? ≠ some c) : befL c l = l.take k ∧ aftL c l = l.drop (k + 1) ∧ l.contains c = true := by
  induction l generalizing k with
  | nil => simp at hk
  | cons x r ih =>
    cases k with
    | zero =>
      simp at hk
      subst hk
      simp [befL, aftL]
    | succ k =>
      have hx : x ≠ c := by
        intro e
        exact hn 0 (by omega) (by simp [e])
      have hp : (x != c) = true := by simpa using hx
      obtain ⟨h1, h2, h3⟩ := ih (k := k) (by simpa using hk) (fun j hj => by have := hn (j + 1) (by omega); simpa using this)
      refine ⟨?_, ?_, ?_⟩
      · unfold befL at h1 ⊢
        rw [List.takeWhile_cons_of_pos (p := (· != _)) hp, h1]
        rfl
      · unfold aftL at h2 ⊢
        rw [List.dropWhile_cons_of_pos (p := (· != _)) hp, h2]
        rfl
      · rw [List.contains_cons, h3, Bool.or_true]
theorem cut_none {c : UInt8} {l : Bs} (hn : ∀ j, j < l.length → l[j]? ≠ some c) : befL c l = l ∧ aftL c l = [] ∧ l.contains c = false := by
  induction l with
  | nil => simp [befL, aftL]
  | cons x r ih =>
    have hx : x ≠ c := by
      intro e
      exact hn 0 (by simp) (by simp [e])
    have hp : (x != c) = true := by simpa using hx
    obtain ⟨h1, h2, h3⟩ := ih (fun j hj => by have := hn (j + 1) (by simpa using hj); simpa using this)
    refine ⟨?_, ?_, ?_⟩
    · unfold befL at h1 ⊢
      rw [List.takeWhile_cons_of_pos (p := (· != _)) hp, h1]
    · unfold aftL at h2 ⊢
      rw [List.dropWhile_cons_of_pos (p := (· != _)) hp, h2]
    · rw [List.contains_cons, h3, Bool.or_false]
      exact beq_eq_false_iff_ne.2 fun e => hx e.symm

end Go.Proofs.YtmogeehhlfjlcaaDoor
