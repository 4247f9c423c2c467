/-
  Lists alone, for the stage's theorem: what stands between the wheel and the times that the law keeps by its own, whatever is done.
-/
import Derived.Test.YtncbfkoldllbpaaWm2
namespace Go.Proofs.Ytncbfkoldllbpaa

/-- the law's own times: another one -/
def upd (d : Nat → Int) (k : Nat) (v : Int) : Nat → Int := fun j => if j = k then v else d j
/-- .. none for these ids -/
def zeroed (d : Nat → Int) (l : List Int) : Nat → Int := fun j => if (j : Int) ∈ l then 0 else d j

structure Inv (W : Wl) (d : Nat → Int) : Prop where
  ok : Ok W
  all : ∀ i, i < 8 → ∀ t ∈ W.sl i, t.1 < 16 ∧ d t.1.toNat = t.2
  has : ∀ k, k < 16 → 0 < d k → hasN W k

theorem Inv.pos {W : Wl} {d : Nat → Int} (h : Inv W d) {k : Nat} (hk : hasN W (k : Int)) : 0 < d k ∧ W.now < d k := by
  obtain ⟨i, hi, t, ht, he⟩ := has_mem.1 hk
  have h1 := (h.all i hi t ht).2
  have h2 := (h.ok.mem i hi t ht).2.1
  have h3 := h.ok.lo
  rw [he] at h1
  simp only [Int.toNat_natCast] at h1
  omega
theorem Inv.iff {W : Wl} {d : Nat → Int} (h : Inv W d) {k : Nat} (hk : k < 16) : 0 < d k ↔ hasN W (k : Int) := ⟨h.has k hk, fun hh => (h.pos hh).1⟩
theorem Inv.wf {W : Wl} {d : Nat → Int} (h : Inv W d) : Wf W := by
  have h0 := h.ok.lo
  have h1 := h.ok.hi
  refine ⟨⟨by omega, by omega⟩, fun i hi t ht => ?_⟩
  obtain ⟨a, b, c, _⟩ := h.ok.mem i hi t ht
  have e := (h.all i hi t ht).1
  exact ⟨⟨by omega, by omega⟩, ⟨by omega, by omega⟩⟩
theorem inv_W0 : Inv W0 (fun _ => 0) := ⟨ok_W0, (fun i _ t ht => by cases ht), (fun k _ h => by simp at h)⟩

/-- as many as there are places, if none is there twice -/
theorem pigeon : ∀ (n : Nat) (l : List Nat), l.Nodup → (∀ x ∈ l, x < n) → l.length ≤ n
  | 0, l, _, h => by
    cases l with
    | nil => exact Nat.le_refl _
    | cons x r => have := h x (by simp); omega
  | n + 1, l, hn, h => by
    by_cases hm : n ∈ l
    · have h1 : (l.erase n).length ≤ n := pigeon n (l.erase n) (hn.sublist List.erase_sublist) fun x hx => by
        have h2 := h x (List.mem_of_mem_erase hx)
        have h3 : x ≠ n := fun e => by subst e; exact (List.Nodup.not_mem_erase hn) hx
        omega
      rw [List.length_erase_of_mem hm] at h1
      omega
    · have := pigeon n l hn fun x hx => by
        have h2 := h x hx
        have h3 : x ≠ n := fun e => hm (e ▸ hx)
        omega
      omega

def idsTo (W : Wl) : Nat → List Nat
  | 0 => []
  | k + 1 => idsTo W k ++ (W.sl k).map (fun t => t.1.toNat)
theorem ids_len (W : Wl) : ∀ k, (idsTo W k).length = manyTo W k
  | 0 => rfl
  | k + 1 => by simp only [idsTo, manyTo, List.length_append, List.length_map, ids_len W k]
theorem ids_mem (W : Wl) : ∀ (k x : Nat), x ∈ idsTo W k → ∃ i, i < k ∧ ∃ t ∈ W.sl i, t.1.toNat = x
  | 0, x, h => by cases h
  | k + 1, x, h => by
    simp only [idsTo, List.mem_append, List.mem_map] at h
    rcases h with h | ⟨t, ht, he⟩
    · obtain ⟨i, hi, r⟩ := ids_mem W k x h
      exact ⟨i, by omega, r⟩
    · exact ⟨k, by omega, t, ht, he⟩
theorem ids_nodup {W : Wl} (h : Ok W) : ∀ k, k ≤ 8 → (idsTo W k).Nodup
  | 0, _ => List.nodup_nil
  | k + 1, hk => by
    simp only [idsTo]
    rw [List.nodup_append]
    refine ⟨ids_nodup h k (by omega), ?_, ?_⟩
    · have h1 := h.apart.own k (by omega)
      rw [List.Nodup, List.pairwise_map] at h1 ⊢
      refine List.Pairwise.imp_of_mem ?_ h1
      intro a b ha hb hab he
      have h2 := (h.mem k (by omega) a ha).1
      have h3 := (h.mem k (by omega) b hb).1
      exact hab (by omega)
    · intro a ha b hb he
      subst he
      obtain ⟨i, hi, t, ht, h1⟩ := ids_mem W k a ha
      obtain ⟨u, hu, h2⟩ := List.mem_map.1 hb
      have h3 := (h.mem i (by omega) t ht).1
      have h4 := (h.mem k (by omega) u hu).1
      exact h.apart.two i k (by omega) (by omega) (by omega) t ht u hu (by omega)
theorem Inv.few {W : Wl} {d : Nat → Int} (h : Inv W d) : manyN W ≤ 16 := by
  unfold manyN
  rw [← ids_len]
  refine pigeon 16 _ (ids_nodup h.ok 8 (Nat.le_refl _)) fun x hx => ?_
  obtain ⟨i, hi, t, ht, rfl⟩ := ids_mem W 8 x hx
  have h1 := (h.all i hi t ht).1
  have h2 := (h.ok.mem i hi t ht).1
  omega

/-- Cancel -/
theorem Inv.cancel {W : Wl} {d : Nat → Int} (h : Inv W d) (id : Nat) : Inv (cancelN W (id : Int)).1 (upd d id 0) ∧ ((cancelN W (id : Int)).2 = 0 ↔ hasN W (id : Int)) := by
  by_cases hh : hasN W (id : Int)
  · rw [cancel_yes h.ok hh]
    refine ⟨⟨ok_drop h.ok _, ?_, ?_⟩, by simp [hh]⟩
    · intro i hi t ht
      have h1 := List.mem_filter.1 ht
      obtain ⟨a, b⟩ := h.all i hi t h1.1
      have h2 := (h.ok.mem i hi t h1.1).1
      refine ⟨a, ?_⟩
      have h3 : t.1 ≠ (id : Int) := by simpa using h1.2
      rw [upd, if_neg (by omega)]
      exact b
    · intro k hk hd
      have hki : k ≠ id := fun e => by subst e; simp [upd] at hd
      rw [upd, if_neg hki] at hd
      obtain ⟨i, hi, t, ht, he⟩ := has_mem.1 (h.has k hk hd)
      exact has_mem.2 ⟨i, hi, t, List.mem_filter.2 ⟨ht, by simp; omega⟩, he⟩
  · rw [cancel_none h.ok hh]
    refine ⟨⟨h.ok, ?_, ?_⟩, by simp [hh]⟩
    · intro i hi t ht
      obtain ⟨a, b⟩ := h.all i hi t ht
      have h2 := (h.ok.mem i hi t ht).1
      refine ⟨a, ?_⟩
      rw [upd, if_neg (fun e => hh (has_mem.2 ⟨i, hi, t, ht, by omega⟩))]
      exact b
    · intro k hk hd
      have hki : k ≠ id := fun e => by subst e; simp [upd] at hd
      rw [upd, if_neg hki] at hd
      exact h.has k hk hd

/-- Set -/
theorem Inv.set {W : Wl} {d : Nat → Int} (h : Inv W d) {id : Nat} {at_ : Int} (hid : id < 16) (h1 : W.now < at_) (h2 : at_ ≤ 9007199254740992) :
    (hasN W (id : Int) → setN W (id : Int) at_ = (W, 6)) ∧ (¬ hasN W (id : Int) → (setN W (id : Int) at_).2 = 0 ∧ Inv (setN W (id : Int) at_).1 (upd d id at_)) := by
  refine ⟨fun hh => set_busy h.ok (by omega) h1 h2 hh, fun hh => ?_⟩
  obtain ⟨r, hr⟩ : ∃ r, (at_ % 8).toNat = r := ⟨_, rfl⟩
  have hf := h.few
  rw [set_yes h.ok (by omega) h1 h2 hh (by omega) hr]
  refine ⟨rfl, ok_put h.ok (by omega) h1 h2 hh (by omega) hr, ?_, ?_⟩
  · intro i hi t ht
    have e : (W.put r (W.sl r ++ [((id : Int), at_)])).sl i = if i = r then W.sl r ++ [((id : Int), at_)] else W.sl i := rfl
    have hold : ∀ t ∈ W.sl i, t.1 < 16 ∧ upd d id at_ t.1.toNat = t.2 := fun t ht => by
      obtain ⟨a, b⟩ := h.all i hi t ht
      have h3 := (h.ok.mem i hi t ht).1
      refine ⟨a, ?_⟩
      rw [upd, if_neg (fun e => hh (has_mem.2 ⟨i, hi, t, ht, by omega⟩))]
      exact b
    simp only at ht
    rw [e] at ht
    split at ht
    · next he =>
      subst he
      simp only [List.mem_append, List.mem_singleton] at ht
      rcases ht with ht | rfl
      · exact hold t ht
      · exact ⟨by simp only; omega, by simp [upd]⟩
    · exact hold t ht
  · intro k hk hd
    by_cases hki : k = id
    · subst hki
      refine has_mem.2 ⟨r, by have := h.ok.lo; omega, ((k : Int), at_), ?_, rfl⟩
      simp [Wl.put]
    · rw [upd, if_neg hki] at hd
      obtain ⟨i, hi, t, ht, he⟩ := has_mem.1 (h.has k hk hd)
      refine has_mem.2 ⟨i, hi, t, ?_, he⟩
      by_cases hir : i = r
      · subst hir
        simp [Wl.put, ht]
      · simp [Wl.put, hir, ht]

/-- Tick: what is told was due -/
theorem Inv.due {W : Wl} {d : Nat → Int} (h : Inv W d) : W.due.Nodup ∧ ∀ x ∈ W.due, 0 ≤ x ∧ x < 16 ∧ d x.toNat = W.now + 1 := by
  have hlo := h.ok.lo
  have hr8 : ((W.now + 1) % 8).toNat < 8 := by omega
  unfold Wl.due
  refine ⟨(h.ok.apart.own _ hr8).sublist (List.filter_sublist.map _), fun x hx => ?_⟩
  obtain ⟨t, ht, rfl⟩ := List.mem_map.1 hx
  obtain ⟨h1, h2⟩ := List.mem_filter.1 ht
  obtain ⟨a, b⟩ := h.all _ hr8 t h1
  refine ⟨(h.ok.mem _ hr8 t h1).1, a, ?_⟩
  rw [b]
  simpa using h2
/-- .. and what is left is not -/
theorem Inv.tick {W : Wl} {d : Nat → Int} (h : Inv W d) (hm : W.now ≠ 9007199254740992) : Inv W.tick (zeroed d W.due) := by
  have hlo := h.ok.lo
  have hok := ok_tick h.ok hm
  have hr8 : ((W.now + 1) % 8).toNat < 8 := by omega
  have hdue : ∀ i, i < 8 → ∀ t ∈ W.sl i, t.1 ∈ W.due ↔ t.2 = W.now + 1 := by
    intro i hi t ht
    constructor
    · intro hx
      obtain ⟨u, hu, he⟩ := List.mem_map.1 hx
      obtain ⟨h1, h2⟩ := List.mem_filter.1 hu
      have b := (h.all i hi t ht).2
      have b' := (h.all _ hr8 u h1).2
      rw [he] at b'
      have h3 : u.2 = W.now + 1 := by simpa using h2
      omega
    · intro hx
      have hm4 := (h.ok.mem i hi t ht).2.2.2
      have : i = ((W.now + 1) % 8).toNat := by rw [hx] at hm4; omega
      subst this
      exact List.mem_map.2 ⟨t, List.mem_filter.2 ⟨ht, by simp [hx]⟩, rfl⟩
  refine ⟨hok, ?_, ?_⟩
  · intro i hi t ht
    have ht' := (tick_sub W i).subset ht
    obtain ⟨a, b⟩ := h.all i hi t ht'
    have h0 := (h.ok.mem i hi t ht').1
    refine ⟨a, ?_⟩
    have hlate := (hok.mem i hi t ht).2.1
    have hlate : W.now + 1 < t.2 := hlate
    have e : ((t.1.toNat : Nat) : Int) = t.1 := by omega
    rw [zeroed, e, if_neg (fun hx => by have := (hdue i hi t ht').1 hx; omega)]
    exact b
  · intro k hk hd
    have hnd : ¬ (k : Int) ∈ W.due := fun e => by simp [zeroed, e] at hd
    rw [zeroed, if_neg hnd] at hd
    obtain ⟨i, hi, t, ht, he⟩ := has_mem.1 (h.has k hk hd)
    have hnt : t.2 ≠ W.now + 1 := fun e => hnd (he ▸ (hdue i hi t ht).2 e)
    refine has_mem.2 ⟨i, hi, t, ?_, he⟩
    simp only [Wl.tick]
    split
    · exact List.mem_filter.2 ⟨ht, by simpa using hnt⟩
    · exact ht

end Go.Proofs.Ytncbfkoldllbpaa
