/-
  The walks of the document's own many and find.
-/
import Derived.Test.YtncbfkoldllbpaaWords
namespace Go.Proofs.Ytncbfkoldllbpaa
open Go.RowKit

set_option maxRecDepth 100000 in
set_option maxHeartbeats 2000000 in
theorem many_any (W : Wl) (S : Nat → Sli) (w : World) (h : At w W S) (hf : manyN W ≤ 1000000) : Calls Try.prog 33 #[wv W.now S] w fun e w' => e = .returned (.int .i64 (manyN W : Int)) ∧ Below w.heap.size w w' := by
  obtain ⟨now, hn⟩ : ∃ now, W.now = now := ⟨_, rfl⟩
  rw [hn]
  unfold wv
  go_enter Try.func33, Try.ntmps33
  go_wp2_with fail
  go_loopw [3, 4] (fun vn vi wr => ∃ i : Nat, i ≤ 8 ∧ vi = .int .i64 (i : Int) ∧ vn = .int .i64 (manyTo W i : Int) ∧ Box wr w.heap.size 25 (wcs now S) ∧ Below w.heap.size w wr) (fun _ vi _ => 8 - (intOf vi).toNat)
  case atStart => exact ⟨0, by omega, rfl, rfl, Box.new _ _ _, ba1 _ _⟩
  case round =>
    obtain ⟨i, hi, rfl, rfl, hbox, hbel⟩ := hrel
    by_cases hlt : i < 8
    · have hc := hbox.slot hlt
      have hl := h.len i hlt
      have hm : manyTo W i + (S i).n ≤ 1000000 := by
        have h1 := many_le W (show i + 1 ≤ 8 by omega)
        have h2 : manyTo W (i + 1) = manyTo W i + (W.sl i).length := rfl
        unfold manyN at hf
        omega
      have HT : Hid (manyTo W (i + 1) = manyTo W i + (S i).n) := Lib.hid (by rw [← hl]; rfl)
      clear hl
      go_wp2
      refine ⟨⟨i + 1, by omega, by go_num, by rw [HT.out]; go_num, hbox, hbel⟩, by simp [intOf]; omega⟩
    · have : i = 8 := by omega
      subst this
      go_wp2
      go_ret
      exact ⟨rfl, hbel⟩

/-- what find hands back -/
def FindEnds (q : Int × Int) (w : World) (e : Ending) (w' : World) : Prop := e = .returned (.tuple #[.int .i64 q.1, .int .i64 q.2]) ∧ Below w.heap.size w w'
theorem ret_two {x y : Int} {q : Int × Int} (h : q = (x, y)) : Ending.returned (.tuple #[.int .i64 x, .int .i64 y]) = .returned (.tuple #[.int .i64 q.1, .int .i64 q.2]) := by rw [h]

set_option maxRecDepth 100000 in
set_option maxHeartbeats 2000000 in
theorem find_any (W : Wl) (S : Nat → Sli) (id : Int) (w : World) (h : At w W S) : Calls Try.prog 32 #[wv W.now S, .int .i64 id] w (FindEnds (findN W id) w) := by
  obtain ⟨now, hn⟩ : ∃ now, W.now = now := ⟨_, rfl⟩
  rw [hn]
  unfold wv
  go_enter Try.func32, Try.ntmps32
  go_wp2_with fail
  go_loopw [6, 7] (fun vi vk wr => ∃ i : Nat, i ≤ 8 ∧ vi = .int .i64 (i : Int) ∧ Hid (findTo W id i = none) ∧ Box wr w.heap.size 25 (wcs now S) ∧ Below w.heap.size w wr) (fun vi _ _ => 8 - (intOf vi).toNat)
  case atStart => exact ⟨0, by omega, rfl, Lib.hid rfl, Box.new _ _ _, ba1 _ _⟩
  case round =>
    obtain ⟨i, hi, rfl, HN, hbox, hbel⟩ := hrel
    by_cases hlt : i < 8
    · have hc := hbox.slot hlt
      have HL := Lib.hid (h.len i hlt)
      have hmx := (h.le i hlt).2
      unfold maxLen at hmx
      have HT := Lib.hid ((h.ts i hlt).up hbel)
      go_wp2_with fail
      go_loopw [7] (fun vk wq => ∃ k : Nat, k ≤ (S i).n ∧ vk = .int .i64 (k : Int) ∧ Hid (∀ (j : Nat) (t : Tm), j < k → (W.sl i)[j]? = some t → t.1 ≠ id) ∧ wr = wq) (fun vk _ => (S i).n - (intOf vk).toNat)
      case atStart => exact ⟨0, Nat.zero_le _, rfl, Lib.hid (fun j t hj => by omega), rfl⟩
      case round =>
        obtain ⟨k, hk, rfl, HK, rfl⟩ := hrel
        by_cases hkn : k < (S i).n
        · obtain ⟨b, o, hA, hb, hcs⟩ := HT.out (by rw [HL.out]; omega)
          obtain ⟨⟨x, y⟩, ht⟩ : ∃ t : Tm, (W.sl i)[k]? = some t := ⟨_, List.getElem?_eq_getElem (by rw [HL.out]; exact hkn)⟩
          have hx := (hcs k (by rw [HL.out]; exact hkn)).1
          rw [ht] at hx
          have hx : wr.cell? ⟨b, o + k * 2, none⟩ = some (.int .i64 x) := hx
          have HX := Lib.hid ht
          rw [hA] at hc
          clear hcs ht hA
          by_cases hid : x = id
          · subst hid
            have HE : Hid (findN W x = ((i : Int), (k : Int))) := Lib.hid (by
              have h1 : findTo W x (i + 1) = some (i, k) := by
                have : (W.sl i).findIdx? (fun t => t.1 == x) = some k := by
                  rw [List.findIdx?_eq_some_iff_getElem]
                  have hkl : k < (W.sl i).length := by rw [HL.out]; exact hkn
                  refine ⟨hkl, ?_, fun j hj => ?_⟩
                  · have := HX.out
                    rw [List.getElem?_eq_getElem hkl] at this
                    have := Option.some.inj this
                    rw [this]
                    simp
                  · have := HK.out j _ hj (List.getElem?_eq_getElem (by omega))
                    simpa using this
                simp only [findTo, HN.out, this, Option.map_some]
              rw [findN, findTo_up h1 8 (by omega)])
            go_wp2
            refine bodyPost_ret (v := .tuple #[.int .i64 (i : Int), .int .i64 (k : Int)]) (by simp [results, Try.results32, go_sem]) rfl ?_
            exact ⟨ret_two HE.out, hbel⟩
          · go_wp2
            refine ⟨⟨k + 1, by omega, by go_num, Lib.hid (fun j t hj ht => ?_), trivial⟩, by simp [intOf]; omega⟩
            by_cases hjk : j < k
            · exact HK.out j t hjk ht
            · have : j = k := by omega
              subst this
              have h2 := HX.out.symm.trans ht
              have := Option.some.inj h2
              subst this
              exact hid
        · have : k = (S i).n := by omega
          subst this
          have HE : Hid (findTo W id (i + 1) = none) := Lib.hid (by
            have : (W.sl i).findIdx? (fun t => t.1 == id) = none := by
              rw [List.findIdx?_eq_none_iff]
              intro t ht
              obtain ⟨j, hj, rfl⟩ := List.mem_iff_getElem.1 ht
              have := HK.out j _ (by rw [← HL.out]; exact hj) (List.getElem?_eq_getElem hj)
              simpa using this
            simp only [findTo, HN.out, this, Option.map_none])
          go_wp2
          refine ⟨⟨i + 1, by omega, by go_num, HE, hbox, hbel⟩, by simp [intOf]; omega⟩
    · have : i = 8 := by omega
      subst this
      have HE : Hid (findN W id = (-1, -1)) := Lib.hid (by rw [findN, HN.out])
      go_wp2
      refine bodyPost_ret (v := .tuple #[.int .i64 (-1), .int .i64 (-1)]) (by simp [results, Try.results32, go_sem]) rfl ?_
      exact ⟨ret_two HE.out, hbel⟩

end Go.Proofs.Ytncbfkoldllbpaa
