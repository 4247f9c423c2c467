/-
  Plain lists: what a ring's content is, what a push writes, and that what is pushed stands behind what there was.
-/
namespace Go.Proofs.Ytbjjolfefegcbaa

/-- cs laid over L from place o on -/
def spl {α : Type} (L : List α) (o : Nat) (cs : List α) : List α := L.take o ++ (cs ++ L.drop (o + cs.length))
theorem length_spl {α : Type} (L : List α) (o : Nat) (cs : List α) (h : o + cs.length ≤ L.length) : (spl L o cs).length = L.length := by simp [spl]; omega
theorem spl_nil {α : Type} (L : List α) (o : Nat) : spl L o [] = L := by simp [spl]

/-- the content of a ring: its first k bytes -/
def dat (xs : List UInt8) (f k : Nat) : List UInt8 := (xs.drop f ++ xs.take f).take k

theorem dat_length (xs : List UInt8) (f k : Nat) (hf : f ≤ xs.length) (hk : k ≤ xs.length) : (dat xs f k).length = k := by simp [dat]; omega

theorem dat_get (xs : List UInt8) (f k i : Nat) (hf : f < xs.length) (hk : k ≤ xs.length) (hi : i < k) : (dat xs f k)[i]? = xs[(f + i) % xs.length]? := by
  unfold dat
  rw [List.getElem?_take, if_pos hi]
  by_cases h : f + i < xs.length
  · rw [List.getElem?_append_left (by simp; omega), List.getElem?_drop, Nat.mod_eq_of_lt h]
  · rw [List.getElem?_append_right (by simp; omega), List.getElem?_take, if_pos (by simp; omega)]
    have e : (f + i) % xs.length = f + i - xs.length := by
      rw [Nat.mod_eq_sub_mod (by omega), Nat.mod_eq_of_lt (by omega)]
    rw [e]
    congr 1
    simp
    omega

/-- the bytes of s written from place p on, round and round -/
def put : List UInt8 → Nat → List UInt8 → List UInt8
  | xs, _, [] => xs
  | xs, p, b :: s => put (xs.set (p % xs.length) b) (p + 1) s

theorem put_length (s : List UInt8) : ∀ (xs : List UInt8) (p : Nat), (put xs p s).length = xs.length := by
  induction s with
  | nil => intro xs p; rfl
  | cons b s ih => intro xs p; simp [put, ih]

theorem put_append (s t : List UInt8) : ∀ (xs : List UInt8) (p : Nat), put xs p (s ++ t) = put (put xs p s) (p + s.length) t := by
  induction s with
  | nil => intro xs p; simp [put]
  | cons b s ih =>
    intro xs p
    simp only [List.cons_append, put, ih, List.length_cons]
    congr 1
    omega

theorem put_mod (s : List UInt8) : ∀ (xs : List UInt8) (p q : Nat), p % xs.length = q % xs.length → put xs p s = put xs q s := by
  induction s with
  | nil => intro xs p q _; rfl
  | cons b s ih =>
    intro xs p q h
    simp only [put]
    rw [h]
    refine ih _ _ _ ?_
    rw [List.length_set, Nat.add_mod, h, ← Nat.add_mod]

theorem put_snoc (xs s : List UInt8) (p : Nat) (b : UInt8) : put xs p (s ++ [b]) = (put xs p s).set ((p + s.length) % xs.length) b := by
  rw [put_append]
  simp [put, put_length]

theorem spl_set (xs s : List UInt8) (p : Nat) (b : UInt8) (h : p < xs.length) : spl (xs.set p b) (p + 1) s = spl xs p (b :: s) := by
  unfold spl
  have hl : (xs.take p).length = p := by simp; omega
  rw [List.set_eq_take_append_cons_drop, if_pos h]
  have e1 : (xs.take p ++ b :: xs.drop (p + 1)).take (p + 1) = xs.take p ++ [b] := by
    rw [List.take_append, hl, List.take_of_length_le (by omega)]
    simp
  have e2 : (xs.take p ++ b :: xs.drop (p + 1)).drop (p + 1 + s.length) = xs.drop (p + (s.length + 1)) := by
    rw [List.drop_append, hl, List.drop_eq_nil_of_le (by omega)]
    have e3 : p + 1 + s.length - p = s.length + 1 := by omega
    rw [e3, List.drop_succ_cons, List.drop_drop]
    simp
    congr 1
    omega
  rw [e1, e2]
  simp

theorem put_spl (s : List UInt8) : ∀ (xs : List UInt8) (p : Nat), p + s.length ≤ xs.length → put xs p s = spl xs p s := by
  induction s with
  | nil => intro xs p _; simp [put, spl_nil]
  | cons b s ih =>
    intro xs p h
    simp only [List.length_cons] at h
    simp only [put]
    rw [Nat.mod_eq_of_lt (by omega), ih _ _ (by simp; omega), spl_set _ _ _ _ (by omega)]

theorem mod_ne (q d n : Nat) (h0 : 0 < d) (h1 : d < n) : (q + d) % n ≠ q % n := by
  intro h
  have := Nat.sub_mod_eq_zero_of_mod_eq h
  rw [show q + d - q = d by omega, Nat.mod_eq_of_lt h1] at this
  omega

theorem put_other (s : List UInt8) : ∀ (xs : List UInt8) (p q : Nat), (∀ j, j < s.length → (p + j) % xs.length ≠ q) → (put xs p s)[q]? = xs[q]? := by
  induction s with
  | nil => intro xs p q _; rfl
  | cons b s ih =>
    intro xs p q h
    simp only [put]
    rw [ih _ _ _ (fun j hj => by rw [List.length_set, show p + 1 + j = p + (j + 1) by omega]; exact h (j + 1) (by simp; omega)), List.getElem?_set, if_neg (by simpa using h 0 (by simp))]

theorem put_same (s : List UInt8) : ∀ (xs : List UInt8) (p j : Nat), s.length ≤ xs.length → j < s.length → (put xs p s)[(p + j) % xs.length]? = s[j]? := by
  induction s with
  | nil => intro xs p j _ h; simp at h
  | cons b s ih =>
    intro xs p j h hj
    simp only [List.length_cons] at h hj
    simp only [put]
    cases j with
    | zero =>
      rw [put_other _ _ _ _ (fun j hj => by
        rw [List.length_set, show p + 1 + j = p + (j + 1) by omega, Nat.add_zero]
        exact mod_ne p (j + 1) xs.length (by omega) (by omega)), List.getElem?_set, if_pos (by simp), if_pos (Nat.mod_lt _ (by omega))]
      rfl
    | succ j =>
      have := ih (xs.set (p % xs.length) b) (p + 1) j (by simp; omega) (by omega)
      rw [List.length_set] at this
      rw [show p + (j + 1) = p + 1 + j by omega, this]
      rfl

/-- what is pushed stands behind what there was -/
theorem dat_put (xs t : List UInt8) (f m : Nat) (hf : f < xs.length) (hm : m + t.length ≤ xs.length) : dat (put xs (f + m) t) f (m + t.length) = dat xs f m ++ t := by
  have hpl := put_length t xs (f + m)
  have hl : (dat xs f m).length = m := dat_length _ _ _ (by omega) (by omega)
  apply List.ext_getElem?
  intro i
  by_cases h : i < m + t.length
  · rw [dat_get _ _ _ _ (by omega) (by omega) h, hpl]
    by_cases h1 : i < m
    · rw [List.getElem?_append_left (by omega), dat_get _ _ _ _ hf (by omega) h1]
      refine put_other _ _ _ _ (fun j hj => ?_)
      rw [show f + m + j = f + i + (m + j - i) by omega]
      exact mod_ne _ _ _ (by omega) (by omega)
    · rw [List.getElem?_append_right (by omega), hl, show f + i = f + m + (i - m) by omega]
      exact put_same _ _ _ _ (by omega) (by omega)
  · rw [List.getElem?_eq_none (by rw [dat_length _ _ _ (by omega) (by omega)]; omega), List.getElem?_eq_none (by simp; omega)]

/-- what is popped, and what is left -/
theorem dat_pop (xs : List UInt8) (f m k : Nat) (hf : f < xs.length) (hm : m ≤ xs.length) (hk : k ≤ m) : dat xs f m = dat xs f k ++ dat xs ((f + k) % xs.length) (m - k) := by
  have hl : (dat xs f k).length = k := dat_length _ _ _ (by omega) (by omega)
  have hg : (f + k) % xs.length < xs.length := Nat.mod_lt _ (by omega)
  apply List.ext_getElem?
  intro i
  by_cases h : i < m
  · rw [dat_get _ _ _ _ hf hm h]
    by_cases h1 : i < k
    · rw [List.getElem?_append_left (by omega), dat_get _ _ _ _ hf (by omega) h1]
    · rw [List.getElem?_append_right (by omega), hl, dat_get _ _ _ _ hg (by omega) (by omega), Nat.mod_add_mod, show f + k + (i - k) = f + i by omega]
  · rw [List.getElem?_eq_none (by rw [dat_length _ _ _ (by omega) (by omega)]; omega), List.getElem?_eq_none (by rw [List.length_append, hl, dat_length _ _ _ (by omega) (by omega)]; omega)]

theorem dat_take (xs : List UInt8) (f m k : Nat) (hk : k ≤ m) : dat xs f k = (dat xs f m).take k := by
  unfold dat
  rw [List.take_take, Nat.min_eq_left hk]

theorem dat_snoc (xs : List UInt8) (f i : Nat) (hf : f < xs.length) (hi : i < xs.length) : dat xs f (i + 1) = dat xs f i ++ [(xs[(f + i) % xs.length]?).getD 0] := by
  have hl : (dat xs f i).length = i := dat_length _ _ _ (by omega) (by omega)
  have hg : (f + i) % xs.length < xs.length := Nat.mod_lt _ (by omega)
  apply List.ext_getElem?
  intro j
  by_cases h : j < i
  · rw [dat_get _ _ _ _ hf (by omega) (by omega), List.getElem?_append_left (by omega), dat_get _ _ _ _ hf (by omega) h]
  · by_cases h2 : j = i
    · subst h2
      rw [dat_get _ _ _ _ hf (by omega) (by omega), List.getElem?_append_right (by omega), hl, List.getElem?_eq_getElem hg]
      simp
    · rw [List.getElem?_eq_none (by rw [dat_length _ _ _ (by omega) (by omega)]; omega), List.getElem?_eq_none (by simp; omega)]

/-- a part of a buffer of n bytes: where it begins, and how long it is -/
abbrev Pc (n : Nat) : Type := { x : Nat × Nat // x.1 + x.2 ≤ n }

/-- what is pushed: the buffer, and how many bytes of s went over -/
def pst (xs s : List UInt8) (pre : List (Nat × Nat)) : List UInt8 × Nat :=
  pre.foldl (fun a x => (spl a.1 x.1 ((s.drop a.2).take x.2), a.2 + ((s.drop a.2).take x.2).length)) (xs, 0)

theorem pst_snoc (xs s : List UInt8) (pre : List (Nat × Nat)) (x : Nat × Nat) :
    pst xs s (pre ++ [x]) = (spl (pst xs s pre).1 x.1 ((s.drop (pst xs s pre).2).take x.2), (pst xs s pre).2 + ((s.drop (pst xs s pre).2).take x.2).length) := by
  simp [pst]

theorem pst_inv (xs s : List UInt8) (n : Nat) (hn : xs.length = n) (pre : List (Pc n)) : (pst xs s (pre.map (fun x => x.1))).1.length = n ∧ (pst xs s (pre.map (fun x => x.1))).2 ≤ s.length := by
  suffices h : ∀ (pre : List (Pc n)) (a : List UInt8 × Nat), a.1.length = n → a.2 ≤ s.length → ((pre.map (fun x => x.1)).foldl (fun a x => (spl a.1 x.1 ((s.drop a.2).take x.2), a.2 + ((s.drop a.2).take x.2).length)) a).1.length = n ∧
      ((pre.map (fun x => x.1)).foldl (fun a x => (spl a.1 x.1 ((s.drop a.2).take x.2), a.2 + ((s.drop a.2).take x.2).length)) a).2 ≤ s.length from h pre _ hn (by simp)
  intro pre
  induction pre with
  | nil => exact fun a h1 h2 => ⟨h1, h2⟩
  | cons x pre ih =>
    intro a h1 h2
    obtain ⟨⟨o, le⟩, hx⟩ := x
    simp only at hx
    have h3 : ((s.drop a.2).take le).length ≤ le := List.length_take_le _ _
    have h4 : ((s.drop a.2).take le).length ≤ s.length - a.2 := by simp; omega
    exact ih _ (by simp only; rw [length_spl _ _ _ (by omega)]; exact h1) (by simp only; omega)

theorem pst_all (xs s : List UInt8) (f m : Nat) (hf : f < xs.length) (hm : m ≤ xs.length) :
    pst xs s [((f + m) % xs.length, min (xs.length - m) (xs.length - (f + m) % xs.length)), (0, xs.length - m - min (xs.length - m) (xs.length - (f + m) % xs.length))] =
      (put xs (f + m) (s.take (xs.length - m)), (s.take (xs.length - m)).length) := by
  have hp : (f + m) % xs.length < xs.length := Nat.mod_lt _ (by omega)
  generalize hpe : (f + m) % xs.length = p at *
  generalize hk : xs.length - m = k at *
  have ha : min k (xs.length - p) ≤ xs.length - p := Nat.min_le_right _ _
  have ha2 : min k (xs.length - p) ≤ k := Nat.min_le_left _ _
  have hor : min k (xs.length - p) = k ∨ min k (xs.length - p) = xs.length - p := by omega
  generalize min k (xs.length - p) = a at *
  have hs : s.take k = s.take a ++ (s.drop a).take (k - a) := by
    rw [← List.take_append_drop a (s.take k), List.take_take, Nat.min_eq_left ha2, List.drop_take]
  have hl1 : (s.take a).length ≤ a := List.length_take_le _ _
  have hs2 : (s.drop (s.take a).length).take (k - a) = (s.drop a).take (k - a) := by
    by_cases h : a ≤ s.length
    · rw [List.length_take, Nat.min_eq_left h]
    · rw [List.length_take, Nat.min_eq_right (by omega), List.drop_eq_nil_of_le (Nat.le_refl _), List.drop_eq_nil_of_le (by omega)]
  have hl2 : ((s.drop a).take (k - a)).length ≤ k - a := List.length_take_le _ _
  have e1 : put xs (f + m) (s.take a) = spl xs p (s.take a) := by
    rw [put_mod _ xs (f + m) p (by rw [hpe, Nat.mod_eq_of_lt hp]), put_spl _ _ _ (by omega)]
  have e2 : put (spl xs p (s.take a)) (f + m + (s.take a).length) ((s.drop a).take (k - a)) = spl (spl xs p (s.take a)) 0 ((s.drop a).take (k - a)) := by
    have hl : (spl xs p (s.take a)).length = xs.length := length_spl _ _ _ (by omega)
    by_cases h0 : ((s.drop a).take (k - a)).length = 0
    · rw [List.eq_nil_of_length_eq_zero h0, spl_nil]
      rfl
    · have h5 : a < s.length := by
        rcases Nat.lt_or_ge a s.length with h | h
        · exact h
        · rw [List.drop_eq_nil_of_le h] at h0
          simp at h0
      have h6 : (s.take a).length = a := by simp; omega
      rw [put_mod _ _ (f + m + (s.take a).length) 0 (by
        rw [hl, h6, Nat.add_mod, hpe]
        rcases hor with h | h
        · omega
        · have h7 : a % xs.length = a ∨ a = xs.length := by
            rcases Nat.lt_or_ge a xs.length with h8 | h8
            · exact .inl (Nat.mod_eq_of_lt h8)
            · exact .inr (by omega)
          rcases h7 with h7 | h7
          · rw [h7, h, show p + (xs.length - p) = xs.length by omega, Nat.mod_self, Nat.zero_mod]
          · rw [h7, Nat.mod_self, show p = 0 by omega]), put_spl _ _ _ (by rw [hl]; omega)]
  simp only [pst, List.foldl_cons, List.foldl_nil, List.drop_zero, Nat.zero_add]
  rw [hs2, hs, put_append, e1, e2, List.length_append]

/-- what is gathered of xs, k bytes at most: the bytes, and how many -/
def gst (xs : List UInt8) (k : Nat) (pre : List (Nat × Nat)) : List UInt8 × Nat :=
  pre.foldl (fun a x => (spl a.1 a.2 (((xs.drop x.1).take x.2).take (k - a.2)), a.2 + (((xs.drop x.1).take x.2).take (k - a.2)).length)) (List.replicate k 0, 0)

theorem gst_snoc (xs : List UInt8) (k : Nat) (pre : List (Nat × Nat)) (x : Nat × Nat) :
    gst xs k (pre ++ [x]) = (spl (gst xs k pre).1 (gst xs k pre).2 (((xs.drop x.1).take x.2).take (k - (gst xs k pre).2)), (gst xs k pre).2 + (((xs.drop x.1).take x.2).take (k - (gst xs k pre).2)).length) := by
  simp [gst]

theorem gst_inv (xs : List UInt8) (k : Nat) (pre : List (Nat × Nat)) : (gst xs k pre).1.length = k ∧ (gst xs k pre).2 ≤ k := by
  suffices h : ∀ (pre : List (Nat × Nat)) (a : List UInt8 × Nat), a.1.length = k → a.2 ≤ k → (pre.foldl (fun a x => (spl a.1 a.2 (((xs.drop x.1).take x.2).take (k - a.2)), a.2 + (((xs.drop x.1).take x.2).take (k - a.2)).length)) a).1.length = k ∧
      (pre.foldl (fun a x => (spl a.1 a.2 (((xs.drop x.1).take x.2).take (k - a.2)), a.2 + (((xs.drop x.1).take x.2).take (k - a.2)).length)) a).2 ≤ k from h pre _ (by simp) (by simp)
  intro pre
  induction pre with
  | nil => exact fun a h1 h2 => ⟨h1, h2⟩
  | cons x pre ih =>
    intro a h1 h2
    have h3 : (((xs.drop x.1).take x.2).take (k - a.2)).length ≤ k - a.2 := List.length_take_le _ _
    exact ih _ (by rw [length_spl _ _ _ (by omega)]; exact h1) (by simp only; omega)

theorem gst_all (xs : List UInt8) (n f k : Nat) (hn : xs.length = n) (hf : f < n) (hk : k ≤ n) : gst xs k [(f, min k (n - f)), (0, k - min k (n - f))] = (dat xs f k, k) := by
  subst hn
  by_cases h : k ≤ xs.length - f
  · have e1 : min k (xs.length - f) = k := Nat.min_eq_left h
    have l1 : ((xs.drop f).take k).length = k := by simp; omega
    have e2 : spl (List.replicate k (0 : UInt8)) 0 ((xs.drop f).take k) = (xs.drop f).take k := by
      unfold spl
      have e9 : (List.replicate k (0 : UInt8)).drop (0 + k) = [] := List.drop_eq_nil_of_le (by simp)
      rw [l1, e9]
      simp
    have e3 : dat xs f k = (xs.drop f).take k := by
      unfold dat
      rw [List.take_append_of_le_length (by simp; omega)]
    simp only [gst, e1, List.foldl_cons, List.foldl_nil, Nat.sub_zero, Nat.sub_self, List.take_take, Nat.min_self, e2, e3, l1]
    simp [spl_nil]
  · have e1 : min k (xs.length - f) = xs.length - f := Nat.min_eq_right (by omega)
    have e0 : (xs.drop f).take (xs.length - f) = xs.drop f := List.take_of_length_le (by simp)
    have e4 : (xs.drop f).take k = xs.drop f := List.take_of_length_le (by simp; omega)
    have l1 : (xs.drop f).length = xs.length - f := by simp
    have l2 : (xs.take (k - (xs.length - f))).length = k - (xs.length - f) := by simp; omega
    have e2 : spl (List.replicate k (0 : UInt8)) 0 (xs.drop f) = xs.drop f ++ List.replicate (k - (xs.length - f)) 0 := by
      unfold spl
      simp
    have e9 : (xs.drop f ++ List.replicate (k - (xs.length - f)) (0 : UInt8)).drop (xs.length - f + (k - (xs.length - f))) = [] := List.drop_eq_nil_of_le (by simp)
    have e5 : spl (xs.drop f ++ List.replicate (k - (xs.length - f)) (0 : UInt8)) (xs.length - f) (xs.take (k - (xs.length - f))) = xs.drop f ++ xs.take (k - (xs.length - f)) := by
      unfold spl
      rw [List.take_append_of_le_length (by rw [l1]; exact Nat.le_refl _), List.take_of_length_le (by rw [l1]; exact Nat.le_refl _), l2, e9]
      simp
    have e3 : dat xs f k = xs.drop f ++ xs.take (k - (xs.length - f)) := by
      unfold dat
      rw [List.take_append, e4, List.take_take, l1, Nat.min_eq_left (by omega)]
    simp only [gst, e1, List.foldl_cons, List.foldl_nil, Nat.sub_zero, e0, e2, l1, Nat.zero_add, List.drop_zero, List.take_take, Nat.min_self, e5, e3, l2]
    congr 1
    omega

end Go.Proofs.Ytbjjolfefegcbaa
