/-
  The walks of the program's own ahead, count and slotOf.
-/
import Derived.Test.YtncbfkoldllbpaaRefA
namespace Go.Proofs.Ytncbfkoldllbpaa
open Go.RowKit

/-- the eight slots as one value -/
theorem idx8 (S : Nat → Sli) {i : Nat} (hi : i < 8) (w : World) : (Instr.index 23 (.agg #[.slice (S 0).A (S 0).n (S 0).c, .slice (S 1).A (S 1).n (S 1).c, .slice (S 2).A (S 2).n (S 2).c, .slice (S 3).A (S 3).n (S 3).c, .slice (S 4).A (S 4).n (S 4).c, .slice (S 5).A (S 5).n (S 5).c, .slice (S 6).A (S 6).n (S 6).c, .slice (S 7).A (S 7).n (S 7).c]) (.int .i64 (i : Int))).run Try.prog w = .ok (.slice (S i).A (S i).n (S i).c) w := by
  rcases (show i = 0 ∨ i = 1 ∨ i = 2 ∨ i = 3 ∨ i = 4 ∨ i = 5 ∨ i = 6 ∨ i = 7 by omega) with rfl | rfl | rfl | rfl | rfl | rfl | rfl | rfl <;> kernel_rfl

set_option maxRecDepth 100000 in
set_option maxHeartbeats 2000000 in
theorem count_any (W : Wl) (S : Nat → Sli) (w : World) (h : At w W S) (hf : manyN W ≤ 1000000) : Calls Try.prog 28 #[wv W.now S] w fun e w' => e = .returned (.int .i64 (manyN W : Int)) ∧ Below w.heap.size w w' := by
  obtain ⟨now, hn⟩ : ∃ now, W.now = now := ⟨_, rfl⟩
  rw [hn]
  unfold wv
  go_enter Try.func28, Try.ntmps28
  go_wp2_with fail
  go_loopw [3, 5, 8] (fun vn v5 vi wr => ∃ i : Nat, i ≤ 8 ∧ vi = .int .i64 (i : Int) ∧ vn = .int .i64 (manyTo W i : Int) ∧ Below w.heap.size w wr) (fun _ _ vi _ => 8 - (intOf vi).toNat)
  case atStart => exact ⟨0, by omega, rfl, rfl, ba1 _ _⟩
  case round =>
    obtain ⟨i, hi, rfl, rfl, hbel⟩ := hrel
    by_cases hlt : i < 8
    · have hl := h.len i hlt
      have hm : manyTo W i + (S i).n ≤ 1000000 := by
        have h1 := many_le W (show i + 1 ≤ 8 by omega)
        have h2 : manyTo W (i + 1) = manyTo W i + (W.sl i).length := rfl
        unfold manyN at hf
        omega
      have HT : Hid (manyTo W (i + 1) = manyTo W i + (S i).n) := Lib.hid (by rw [← hl]; rfl)
      clear hl
      have hx := idx8 S hlt
      go_wp2
      refine ⟨⟨i + 1, by omega, by go_num, by rw [HT.out]; go_num, hbel⟩, by simp [intOf]; omega⟩
    · have : i = 8 := by omega
      subst this
      go_wp2
      go_ret
      exact ⟨rfl, hbel⟩
/-- what ahead reports -/
def aheadN (now at_ : Int) : Bool := decide (now < at_ ∧ at_ ≤ 9007199254740992)

set_option maxRecDepth 100000 in
set_option maxHeartbeats 2000000 in
theorem ahead_any (now : Int) (S : Nat → Sli) (at_ : Int) (w : World) : Calls Try.prog 27 #[wv now S, .int .i64 at_] w fun e w' => e = .returned (.bool (aheadN now at_)) ∧ Below w.heap.size w w' := by
  unfold wv
  by_cases h1 : now < at_
  · have HE : Hid (aheadN now at_ = decide (at_ ≤ 9007199254740992)) := Lib.hid (by simp [aheadN, h1])
    have d1 : decide (at_ > now) = true := decide_eq_true h1
    go_enter Try.func27, Try.ntmps27
    go_wp2
    go_ret
    exact ⟨ret_bool HE.out.symm, ba1 _ _⟩
  · have HE : Hid (aheadN now at_ = false) := Lib.hid (by simp [aheadN, h1])
    go_enter Try.func27, Try.ntmps27
    go_wp2
    go_ret
    exact ⟨ret_bool HE.out.symm, ba1 _ _⟩

set_option maxRecDepth 100000 in
set_option maxHeartbeats 2000000 in
theorem slotOf_any (W : Wl) (S : Nat → Sli) (id : Int) (w : World) (h : At w W S) : Calls Try.prog 25 #[wv W.now S, .int .i64 id] w fun e w' => e = .returned (.int .i64 (findN W id).1) ∧ Below w.heap.size w w' := by
  obtain ⟨now, hn⟩ : ∃ now, W.now = now := ⟨_, rfl⟩
  rw [hn]
  unfold wv
  go_enter Try.func25, Try.ntmps25
  go_wp2_with fail
  go_loopw [5, 6, 8, 11] (fun v5 v6 v8 vi wr => ∃ i : Nat, i ≤ 8 ∧ vi = .int .i64 (i : Int) ∧ Hid (findTo W id i = none) ∧ Below w.heap.size w wr) (fun _ _ _ vi _ => 8 - (intOf vi).toNat)
  case atStart => exact ⟨0, by omega, rfl, Lib.hid rfl, ba1 _ _⟩
  case round =>
    obtain ⟨i, hi, rfl, HN, hbel⟩ := hrel
    by_cases hlt : i < 8
    · have hx := idx8 S hlt
      have HL := Lib.hid (h.len i hlt)
      have hmx := (h.le i hlt).2
      unfold maxLen at hmx
      go_wp2_with fail
      go_loopw [8, 17] (fun v8 vk wq => ∃ k : Nat, k ≤ (S i).n ∧ vk = .int .i64 (k : Int) ∧ Hid (∀ (j : Nat) (t : Tm), j < k → (W.sl i)[j]? = some t → t.1 ≠ id) ∧ Below w.heap.size w wq) (fun _ vk _ => (S i).n - (intOf vk).toNat)
      case atStart => exact ⟨0, Nat.zero_le _, rfl, Lib.hid (fun j t hj => by omega), hbel⟩
      case round =>
        obtain ⟨k, hk, rfl, HK, hbq⟩ := hrel
        by_cases hkn : k < (S i).n
        · obtain ⟨⟨x, y⟩, ht⟩ : ∃ t : Tm, (W.sl i)[k]? = some t := ⟨_, List.getElem?_eq_getElem (by rw [HL.out]; exact hkn)⟩
          obtain ⟨b, o, hA, hb, hx, hy⟩ := ((h.ts i hlt).up hbq).two ht
          have hx : wr.cell? ⟨b, o + k * 2, none⟩ = some (.int .i64 x) := hx
          have hy : wr.cell? ⟨b, o + k * 2 + 1, none⟩ = some (.int .i64 y) := hy
          have HX := Lib.hid ht
          rw [hA]
          clear ht hA
          by_cases hid : x = id
          · subst hid
            have HE : Hid ((findN W x).1 = (i : Int)) := Lib.hid (by
              have h1 : findTo W x (i + 1) = some (i, k) := by
                have : (W.sl i).findIdx? (fun t => t.1 == x) = some k := by
                  rw [List.findIdx?_eq_some_iff_getElem]
                  have hkl : k < (W.sl i).length := by rw [HL.out]; exact hkn
                  refine ⟨hkl, ?_, fun j hj => ?_⟩
                  · have := HX.out
                    rw [List.getElem?_eq_getElem hkl] at this
                    have := Option.some.inj this
                    rw [this]
                    simp
                  · have := HK.out j _ hj (List.getElem?_eq_getElem (by omega))
                    simpa using this
                simp only [findTo, HN.out, this, Option.map_some]
              rw [findN, findTo_up h1 8 (by omega)])
            go_wp2
            go_ret
            exact ⟨ret_int HE.out.symm, bon hbq (ba1 _ _)⟩
          · go_wp2
            refine ⟨⟨k + 1, by omega, by go_num, Lib.hid (fun j t hj ht => ?_), bon hbq (ba1 _ _)⟩, by simp [intOf]; omega⟩
            by_cases hjk : j < k
            · exact HK.out j t hjk ht
            · have : j = k := by omega
              subst this
              have h2 := HX.out.symm.trans ht
              have := Option.some.inj h2
              subst this
              exact hid
        · have : k = (S i).n := by omega
          subst this
          have HE : Hid (findTo W id (i + 1) = none) := Lib.hid (by
            have : (W.sl i).findIdx? (fun t => t.1 == id) = none := by
              rw [List.findIdx?_eq_none_iff]
              intro t ht
              obtain ⟨j, hj, rfl⟩ := List.mem_iff_getElem.1 ht
              have := HK.out j _ (by rw [← HL.out]; exact hj) (List.getElem?_eq_getElem hj)
              simpa using this
            simp only [findTo, HN.out, this, Option.map_none])
          go_wp2
          refine ⟨⟨i + 1, by omega, by go_num, HE, hbq⟩, by simp [intOf]; omega⟩
    · have : i = 8 := by omega
      subst this
      have HE : Hid ((findN W id).1 = -1) := Lib.hid (by rw [findN, HN.out])
      go_wp2
      go_ret
      exact ⟨ret_int HE.out.symm, hbel⟩
end Go.Proofs.Ytncbfkoldllbpaa
