/-
  Messages as lists alone: what the laws MessageSplit and MessageBack ask.
-/
import Derived.Test.YtdlihfbaepjliaaGreatDoorJPw
import Derived.Test.YtdlihfbaepjliaaGreatDoorLawE
namespace Go.Proofs.YtdlihfbaepjliaaGreatDoor
open Go.RowKit

/-! pieces -/
theorem read_piece {R : Rr} (h : okR R) (t : Bs) : feedR R t = ((feedM R [] t).1, (feedM R [] t).2, (feedM R [] t).1.e) := by
  unfold feedR
  rw [if_pos h]
theorem feed_more (R : Rr) (p t : Bs) : feedM R [] (p ++ t) = ((feedM (feedM R [] p).1 [] t).1, (feedM R [] p).2 ++ (feedM (feedM R [] p).1 [] t).2) := by
  rw [feedM_app, feedM_acc]
theorem feed_count (s : Bs) : ∀ R : Rr, (feedM R [] s).2.length ≤ s.length := by
  induction s with
  | nil => intro R; simp [feedM]
  | cons c t ih =>
    intro R
    rw [feedM]
    split
    · simp
    · rw [feedM_acc]
      have h1 := ih (stepR R [] c).1
      have h2 : (stepR R [] c).2.length ≤ 1 := by
        unfold stepR
        split <;> simp
      simp only [List.length_append, List.length_cons]
      omega
theorem read_okM (a : Bool) (q p : Bs) : okR (feedM (newR a q) [] p).1 := (feed_okT p _ (okT_new a q)).1
theorem read_e (a : Bool) (q s : Bs) : feedR (newR a q) s = ((feedM (newR a q) [] s).1, (feedM (newR a q) [] s).2, (feedM (newR a q) [] s).1.e) := read_piece (ok_new a q) s

/-! what is printed -/
theorem d3 : ∀ a b c : Fin 10, valueB [chN a.1, chN b.1, chN c.1] = true := by decide +kernel
theorem d2 : ∀ a b : Fin 10, valueB [chN a.1, chN b.1] = true := by decide +kernel
theorem d1 : ∀ a : Fin 10, valueB [chN a.1] = true := by decide +kernel
theorem cl_value {n : Nat} (h : n < 1000) : valueB (textN (n : Int) 10) = true ∧ (textN (n : Int) 10).length ≤ 3 := by
  rw [textN, if_pos ⟨fit_iff.2 (by omega), .inl rfl⟩]
  show valueB (dgs 10 n) = true ∧ (dgs 10 n).length ≤ 3
  by_cases h1 : n < 10
  · rw [dgs_small h1]
    exact ⟨d1 ⟨n, h1⟩, by simp⟩
  · by_cases h2 : n < 100
    · rw [dgs_big (by omega) (by omega), dgs_small (by omega)]
      exact ⟨d2 ⟨n / 10, by omega⟩ ⟨n % 10, by omega⟩, by simp⟩
    · rw [dgs_big (by omega) (by omega), dgs_big (by omega) (by omega), dgs_small (by omega)]
      exact ⟨d3 ⟨n / 10 / 10, by omega⟩ ⟨n / 10 % 10, by omega⟩ ⟨n % 10, by omega⟩, by simp⟩
theorem cl_name : nameB CLB = true := by decide +kernel
theorem right_headP {M : Mg} {a : Bool} (hr : rightB M.h a = true) (hl : M.h.fs.length ≤ 19) (hb : M.b.length < 1000) : rightB (headP M) a = true := by
  obtain ⟨hm, _, hf, hk⟩ := kind_parts hr
  have hfs : (headP M).fs = dropB M.h.fs ++ [(CLB, textN (M.b.length : Int) 10)] := rfl
  unfold rightB fieldsB
  simp only [Bool.and_eq_true, Bool.or_eq_true, decide_eq_true_eq, List.all_eq_true]
  refine ⟨⟨hm, ?_, ?_⟩, hk⟩
  · rw [hfs, List.length_append]
    have := dropB_len M.h.fs
    simp only [List.length_cons, List.length_nil]
    omega
  · intro f hm2
    rw [hfs] at hm2
    rcases List.mem_append.1 hm2 with h | h
    · exact hf f (drop_mem h).1
    · obtain rfl := List.mem_singleton.1 h
      unfold fieldB
      rw [Bool.and_eq_true]
      exact ⟨cl_name, (cl_value hb).1⟩
/-- sizes of a head that was made -/
def Mini (h : Hd) : Prop := h.m.length ≤ 40 ∧ h.t.length ≤ 40 ∧ h.r.length ≤ 40 ∧ h.fs.length ≤ 6 ∧ ∀ f ∈ h.fs, f.1.length ≤ 40 ∧ f.2.length ≤ 40
theorem flat_len : ∀ (fs : List (Bs × Bs)), (∀ f ∈ fs, f.1.length ≤ 40 ∧ f.2.length ≤ 40) → (fs.flatMap fieldT).length ≤ fs.length * 84 := by
  intro fs
  induction fs with
  | nil => intro _; simp
  | cons f r ih =>
    intro h
    have h1 := h f (by simp)
    have h2 := ih (fun g hg => h g (by simp [hg]))
    rw [List.flatMap_cons, List.length_append]
    simp only [fieldT, crlf, List.length_append, List.length_cons, List.length_nil]
    omega
theorem len_headP {M : Mg} {a : Bool} (hr : rightB M.h a = true) (hs : Mini M.h) (hb : M.b.length < 1000) : (textH (headP M) a).length ≤ 2004 := by
  obtain ⟨h1, h2, h3, h4, h5⟩ := hs
  obtain ⟨hm, _, _, hk⟩ := kind_parts hr
  obtain ⟨_, _, hv⟩ := ver_no hm
  have hc := (cl_value hb).2
  have hfl : ((headP M).fs.flatMap fieldT).length ≤ 7 * 84 := by
    have hfs : (headP M).fs = dropB M.h.fs ++ [(CLB, textN (M.b.length : Int) 10)] := rfl
    have := flat_len (headP M).fs (by
      intro f hf
      rw [hfs] at hf
      rcases List.mem_append.1 hf with h | h
      · exact h5 f (drop_mem h).1
      · obtain rfl := List.mem_singleton.1 h
        exact ⟨show CLB.length ≤ 40 by decide, by simp only; omega⟩)
    have hl : (headP M).fs.length ≤ 7 := by
      rw [hfs, List.length_append]
      have := dropB_len M.h.fs
      simp only [List.length_cons, List.length_nil]
      omega
    omega
  have hst : a = true → (textN M.h.st 10).length = 3 := by
    intro ha
    unfold kindB at hk
    rw [if_pos ha] at hk
    simp only [Bool.and_eq_true] at hk
    exact (st_facts hk.1.1.1).1
  have e1 : (headP M).m = M.h.m := rfl
  have e2 : (headP M).t = M.h.t := rfl
  have e3 : (headP M).r = M.h.r := rfl
  have e4 : (headP M).mi = M.h.mi := rfl
  have e5 : (headP M).st = M.h.st := rfl
  unfold textH firstT
  rw [e1, e2, e3, e4, e5]
  simp only [List.length_append, crlf, List.length_cons, List.length_nil]
  split
  · rename_i ha
    have := hst ha
    simp only [List.length_append, List.length_cons, List.length_nil]
    omega
  · simp only [List.length_append, List.length_cons, List.length_nil]
    omega
theorem print_ok9 {M : Mg} {a : Bool} (hr : rightB M.h a = true) (hs : Mini M.h) (hb : M.b.length ≤ 300) : printR M a = (textH (headP M) a ++ M.b, 0) := by
  unfold printR
  rw [if_neg (by omega), print_ok (right_headP hr (by have := hs.2.2.2.1; omega) (by omega)) (len_headP hr hs (by omega)), if_neg (by simp)]
theorem headP_twice (M : Mg) : headP ⟨headP M, M.b⟩ = headP M := by
  show (⟨M.h.m, M.h.t, M.h.st, M.h.r, M.h.mi, dropB (dropB M.h.fs ++ [(CLB, textN (M.b.length : Int) 10)]) ++ [(CLB, textN (M.b.length : Int) 10)]⟩ : Hd) = _
  rw [drop_twice]
  rfl
theorem print_twice (M : Mg) (a : Bool) : printR ⟨headP M, M.b⟩ a = printR M a := by
  unfold printR
  rw [headP_twice]
theorem back_ok {M : Mg} {a : Bool} (hr : rightB M.h a = true) (hs : Mini M.h) (hb : M.b.length ≤ 300) (hst : a = true → bareB M.h.st [71, 69, 84] = false) : feedR (newR a [71, 69, 84]) (textH (headP M) a ++ M.b) = (newR a [71, 69, 84], [⟨headP M, M.b⟩], 0) := by
  rw [read_e, back_M (right_headP hr (by have := hs.2.2.2.1; omega) (by omega)) (len_headP hr hs (by omega)) (by omega) hst]
  rfl
/-- the status that an answer gets -/
def setSt (h : Hd) (a : Bool) : Hd := if a = true ∧ (h.st < 200 ∨ h.st = 204 ∨ h.st = 304) then { h with st := 200 } else h
theorem set_right {h : Hd} {a : Bool} (hr : rightB h a = true) : rightB (setSt h a) a = true := by
  unfold setSt
  split
  · rename_i hc
    obtain ⟨rfl, _⟩ := hc
    obtain ⟨h1, h2, h3, h4⟩ := kind_parts hr
    unfold kindB at h4
    rw [if_pos rfl] at h4
    unfold rightB fieldsB kindB
    simp only [Bool.and_eq_true, Bool.or_eq_true, decide_eq_true_eq, List.all_eq_true, if_true] at h4 ⊢
    exact ⟨⟨h1, h2, h3⟩, ⟨⟨by decide, h4.1.1.2⟩, h4.1.2⟩, h4.2⟩
  · exact hr
theorem set_mini {h : Hd} {a : Bool} (hs : Mini h) : Mini (setSt h a) := by
  unfold setSt
  split
  · exact hs
  · exact hs
theorem set_bare {h : Hd} {a : Bool} : a = true → bareB (setSt h a).st [71, 69, 84] = false := by
  intro ha
  unfold setSt bareB
  split
  · simp
  · rename_i hc
    simp only [Bool.or_eq_false_iff, decide_eq_false_iff_not]
    refine ⟨⟨⟨by decide, fun h => hc ⟨ha, .inl h⟩⟩, fun h => hc ⟨ha, .inr (.inl h)⟩⟩, fun h => hc ⟨ha, .inr (.inr h)⟩⟩
theorem good_mini {a : Bool} {m t : ByteArray} {st : Int} {r : ByteArray} {mi : Int} {fs : List Fd} (h : GoodH a m t st r mi fs) : Mini (hdOf m t st r mi fs) := by
  obtain ⟨_, h2, h3, h4, h5, h6⟩ := h
  refine ⟨by simp only [hdOf, dl_len]; exact h2, by simp only [hdOf, dl_len]; exact h3, by simp only [hdOf, dl_len]; exact h4, by simp only [hdOf, dls_len]; exact h5, ?_⟩
  intro f hf
  obtain ⟨p, hp, rfl⟩ := List.mem_map.1 (show f ∈ dls fs from hf)
  have := h6 p hp
  simp only [dl_len]
  exact this
end Go.Proofs.YtdlihfbaepjliaaGreatDoor
