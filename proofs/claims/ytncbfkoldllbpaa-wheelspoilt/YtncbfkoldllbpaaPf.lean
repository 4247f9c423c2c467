/-
  The walks of slices.IndexFunc at timers and of the program's two closures.
-/
import Derived.Test.YtncbfkoldllbpaaPd
import Derived.Shelf.Abstract
namespace Go.Proofs.Ytncbfkoldllbpaa
open Go.RowKit

/-- function f, with what it has captured in the box gc (the number v), tells p of a timer -/
structure Tells (f gc : Nat) (v : Int) (p : Tm → Bool) : Prop where
  en : ∀ args w, (callFunc f args).run Try.prog w = .ok (.enter f args) w
  run : ∀ (W1 : World) (x y : Int), Box W1 gc 3 #[.int .i64 v] → Calls Try.prog f #[.agg #[.int .i64 x, .int .i64 y], .pointer (some ⟨gc, 0, none⟩)] W1 fun e w' => e = .returned (.bool (p (x, y))) ∧ Below W1.heap.size W1 w'

theorem bool_eq_decide (a b : Int) : (a == b) = decide (a = b) := by
  by_cases h : a = b <;> simp [h]

theorem tells_due (gc : Nat) (now : Int) : Tells 22 gc now (fun t => t.2 == now) where
  en := enters_of Try.func22 (by kernel_rfl) rfl
  run W1 x y hb := by
    have hc := hb.one.1
    have hlt := hb.lt
    have hne : gc ≠ W1.heap.size := by omega
    by_cases hy : y = now
    · subst hy
      go_enter Try.func22, Try.ntmps22
      go_wp2
      go_ret
      exact ⟨ret_bool (by simp), ba1 _ _⟩
    · go_enter Try.func22, Try.ntmps22
      go_wp2
      go_ret
      exact ⟨ret_bool (by simp), ba1 _ _⟩
theorem tells_id (gc : Nat) (id : Int) : Tells 26 gc id (fun t => t.1 == id) where
  en := enters_of Try.func26 (by kernel_rfl) rfl
  run W1 x y hb := by
    have hc := hb.one.1
    have hlt := hb.lt
    have hne : gc ≠ W1.heap.size := by omega
    by_cases hy : x = id
    · subst hy
      go_enter Try.func26, Try.ntmps26
      go_wp2
      go_ret
      exact ⟨ret_bool (by simp), ba1 _ _⟩
    · go_enter Try.func26, Try.ntmps26
      go_wp2
      go_ret
      exact ⟨ret_bool (by simp), ba1 _ _⟩

/-- where the first one is of which p holds -/
def idxT (p : Tm → Bool) (xs : List Tm) : Int := match xs.findIdx? p with
  | some k => (k : Int)
  | none => -1

set_option maxRecDepth 100000 in
set_option maxHeartbeats 2000000 in
theorem indexFunc_any {f gc : Nat} {v : Int} {p : Tm → Bool} (hT : Tells f gc v p) (s : Sli) (xs : List Tm) (w : World) (hl : xs.length = s.n) (hts : Ts w s.A xs) (hn : s.n ≤ 1000000) (hb : Box w gc 3 #[.int .i64 v]) :
    Calls Try.prog 35 #[.slice s.A s.n s.c, .func (.func f) #[] #[.pointer (some ⟨gc, 0, none⟩)]] w fun e w' => e = .returned (.int .i64 (idxT p xs)) ∧ Below w.heap.size w w' := by
  obtain ⟨A, n, c⟩ := s
  simp only at hl hts hn ⊢
  have HL := Lib.hid hl
  have HTs := Lib.hid hts
  have HB := Lib.hid hb
  have HT := Lib.hid hT.run
  have eg := hT.en
  clear hl hts hb hT
  go_enter Try.func35, Try.ntmps35
  go_wp2_with fail
  go_loopw [5, 8] (fun v5 vk wr => ∃ k : Nat, k ≤ n ∧ vk = .int .i64 (k : Int) ∧ Hid (∀ (j : Nat) (t : Tm), j < k → xs[j]? = some t → p t = false) ∧ Below w.heap.size w wr) (fun _ vk _ => n - (intOf vk).toNat)
  case atStart => exact ⟨0, Nat.zero_le _, rfl, Lib.hid (fun j t hj => by omega), Below.refl _ _⟩
  case round =>
    obtain ⟨k, hk, rfl, HK, hbel⟩ := hrel
    by_cases hkn : k < n
    · obtain ⟨⟨x, y⟩, ht⟩ : ∃ t : Tm, xs[k]? = some t := ⟨_, List.getElem?_eq_getElem (by rw [HL.out]; exact hkn)⟩
      obtain ⟨b, o, hA, hb, hx, hy⟩ := (HTs.out.up hbel).two ht
      have hx : wr.cell? ⟨b, o + k * 2, none⟩ = some (.int .i64 x) := hx
      have hy : wr.cell? ⟨b, o + k * 2 + 1, none⟩ = some (.int .i64 y) := hy
      have HX := Lib.hid ht
      subst hA
      clear ht
      go_wp2_with fail
      refine (HT.out _ x y (HB.out.up hbel)).mono ?_
      rintro e w2 ⟨rfl, hb2⟩
      cases hp : p (x, y) with
      | true =>
        have HE : Hid (idxT p xs = (k : Int)) := Lib.hid (by
          have : xs.findIdx? p = some k := by
            rw [List.findIdx?_eq_some_iff_getElem]
            have hkl : k < xs.length := by rw [HL.out]; exact hkn
            refine ⟨hkl, ?_, fun j hj => ?_⟩
            · have := HX.out
              rw [List.getElem?_eq_getElem hkl] at this
              have := Option.some.inj this
              rw [this]
              exact hp
            · have := HK.out j _ hj (List.getElem?_eq_getElem (by omega))
              simpa using this
          rw [idxT, this])
        go_wp2
        go_ret
        exact ⟨ret_int HE.out.symm, bon hbel hb2⟩
      | false =>
        go_wp2
        refine ⟨⟨k + 1, by omega, by go_num, Lib.hid (fun j t hj ht => ?_), bon hbel hb2⟩, by simp [intOf]; omega⟩
        by_cases hjk : j < k
        · exact HK.out j t hjk ht
        · have : j = k := by omega
          subst this
          have h2 := HX.out.symm.trans ht
          have := Option.some.inj h2
          subst this
          exact hp
    · have : k = n := by omega
      subst this
      have HE : Hid (idxT p xs = -1) := Lib.hid (by
        have : xs.findIdx? p = none := by
          rw [List.findIdx?_eq_none_iff]
          intro t ht
          obtain ⟨j, hj, rfl⟩ := List.mem_iff_getElem.1 ht
          exact HK.out j _ (by rw [← HL.out]; exact hj) (List.getElem?_eq_getElem hj)
        rw [idxT, this])
      go_wp2
      go_ret
      exact ⟨ret_int HE.out.symm, hbel⟩

end Go.Proofs.Ytncbfkoldllbpaa
