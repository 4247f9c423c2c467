/-
  The walk of the law FieldLong.
-/
import Derived.Test.YtlnekljbmfdgnaaDoorAwake
namespace Go.Proofs.YtlnekljbmfdgnaaDoor
open Go.RowKit

theorem conv2 (W : World) (x y : UInt8) (r : Nat) (c : Nat) (z : UInt8) (h : (r = 0 ∧ z = x) ∨ (r = 1 ∧ z = y)) : (convert 25 9 (.slice (some ⟨W.heap.size, r, none⟩) 1 c)).run Tryd.prog (W.alloc (.cells #[.int .u8 (x.toNat : Int), .int .u8 (y.toNat : Int)] 5)) = .ok (.string ⟨#[z]⟩) (W.alloc (.cells #[.int .u8 (x.toNat : Int), .int .u8 (y.toNat : Int)] 5)) := by
  have h := run_convert_bytes_back (P := Tryd.prog) (W.alloc (.cells #[.int .u8 (x.toNat : Int), .int .u8 (y.toNat : Int)] 5)) 25 9 5 ⟨W.heap.size, r, none⟩ c [z] Tryd.underlying25 Tryd.underlying5 Tryd.underlying9 (fun j hj => by
    obtain rfl : j = 0 := by simpa using hj
    rw [Addr.add_lit]
    rcases h with ⟨rfl, rfl⟩ | ⟨rfl, rfl⟩
    · exact (Box.new W 5 #[.int .u8 (z.toNat : Int), .int .u8 (y.toNat : Int)]).c 0 rfl
    · exact (Box.new W 5 #[.int .u8 (x.toNat : Int), .int .u8 (z.toNat : Int)]).c 1 rfl)
  simpa using h

set_option maxRecDepth 100000 in
set_option maxHeartbeats 4000000 in
theorem long_any (n v : Nat) (c : UInt8) (hn : n < 256) (hv : v < 256) (w : World) : Calls Tryd.prog 5 #[.int .u8 (n : Int), .int .u8 (v : Int), .int .u8 (c.toNat : Int)] w (BoolEnds true w) := by
  have hc := c.toNat_lt
  obtain ⟨rn, hrn⟩ : ∃ r, n % 10 = r := ⟨_, rfl⟩
  obtain ⟨rv, hrv⟩ : ∃ r, v % 10 = r := ⟨_, rfl⟩
  have hrn9 : rn < 10 := by omega
  have hrv9 : rv < 10 := by omega
  have t1 : IntKind.i64.wrap (n : Int) = (n : Int) := IntWalk.i64_in _ (by omega)
  have t2 : (n : Int).tmod 10 = (rn : Int) := by rw [Int.tmod_eq_emod_of_nonneg (by omega), ← hrn]; simp
  have t3 : (n : Int) % 10 = (rn : Int) := by rw [← hrn]; simp
  have t4 : IntKind.i64.wrap (rn : Int) = (rn : Int) := IntWalk.i64_in _ (by omega)
  have t5 : IntKind.i64.wrap (35 + (rn : Int)) = 35 + (rn : Int) := IntWalk.i64_in _ (by omega)
  have u1 : IntKind.i64.wrap (v : Int) = (v : Int) := IntWalk.i64_in _ (by omega)
  have u2 : (v : Int).tmod 10 = (rv : Int) := by rw [Int.tmod_eq_emod_of_nonneg (by omega), ← hrv]; simp
  have u3 : (v : Int) % 10 = (rv : Int) := by rw [← hrv]; simp
  have u4 : IntKind.i64.wrap (rv : Int) = (rv : Int) := IntWalk.i64_in _ (by omega)
  have u5 : IntKind.i64.wrap (195 + (rv : Int)) = 195 + (rv : Int) := IntWalk.i64_in _ (by omega)
  clear hrn hrv
  have hx1 : (⟨#[110]⟩ : ByteArray).size = 1 := rfl
  go_enter Tryd.func5, Tryd.ntmps5
  go_wp2_with fail
  go_loopw [9, 7] (fun i s wr => ∃ (k : Nat) (t : ByteArray), k ≤ 35 + rn ∧ i = .int .i64 (k : Int) ∧ s = .string t ∧ t.size ≤ k ∧ w = wr) (fun i _ _ => 35 + rn - (intOf i).toNat)
  case atStart => exact ⟨0, ⟨#[]⟩, Nat.zero_le _, rfl, rfl, Nat.le_refl _, rfl⟩
  case round =>
    obtain ⟨k, t, hk, rfl, rfl, ht, rfl⟩ := hrel
    by_cases hlt : k < 35 + rn
    · have hsz : (t ++ (⟨#[110]⟩ : ByteArray)).size = t.size + 1 := by rw [ByteArray.size_append, hx1]
      have hki : (k : Int) < 35 + (rn : Int) := by omega
      go_wp2
      go_roundw
      case rel => exact ⟨k + 1, _, by omega, by go_num, rfl, by omega, trivial⟩
      case measure => simp [intOf]; omega
    · have hki : ¬ (k : Int) < 35 + (rn : Int) := by omega
      have htn : t.size ≤ 44 := by omega
      go_wp2_with fail
      go_loopw [10, 8] (fun i s wr => ∃ (k : Nat) (t : ByteArray), k ≤ 195 + rv ∧ i = .int .i64 (k : Int) ∧ s = .string t ∧ t.size ≤ k ∧ Below w.heap.size w wr) (fun i _ _ => 195 + rv - (intOf i).toNat)
      case atStart => exact ⟨0, ⟨#[]⟩, Nat.zero_le _, rfl, rfl, Nat.le_refl _, Below.refl _ _⟩
      case round =>
        obtain ⟨q, u, hq, rfl, rfl, hu, hbw⟩ := hrel
        by_cases hql : q < 195 + rv
        · have hqi : (q : Int) < 195 + (rv : Int) := by omega
          obtain ⟨r, hr⟩ : ∃ r, q % 2 = r := ⟨_, rfl⟩
          have hr2 : r = 0 ∨ r = 1 := by omega
          obtain ⟨z, hz⟩ : ∃ z : UInt8, (r = 0 ∧ z = 118) ∨ (r = 1 ∧ z = c) := by
            rcases hr2 with h | h
            · exact ⟨118, .inl ⟨h, rfl⟩⟩
            · exact ⟨c, .inr ⟨h, rfl⟩⟩
          have hcv : ∀ cc, (convert 25 9 (.slice (some ⟨wr.heap.size, r, none⟩) 1 cc)).run Tryd.prog (wr.alloc (.cells #[.int .u8 118, .int .u8 (c.toNat : Int)] 5)) = .ok (.string ⟨#[z]⟩) (wr.alloc (.cells #[.int .u8 118, .int .u8 (c.toNat : Int)] 5)) := fun cc => conv2 wr 118 c r cc z hz
          have v2 : (q : Int).tmod 2 = (r : Int) := by rw [Int.tmod_eq_emod_of_nonneg (by omega), ← hr]; simp
          have v3 : (q : Int) % 2 = (r : Int) := by rw [← hr]; simp
          have v4 : IntKind.i64.wrap (r : Int) = (r : Int) := IntWalk.i64_in _ (by omega)
          have v5 : IntKind.i64.wrap ((r : Int) + 1) = (r : Int) + 1 := IntWalk.i64_in _ (by omega)
          have hz1 : (⟨#[z]⟩ : ByteArray).size = 1 := rfl
          have hsz : (u ++ (⟨#[z]⟩ : ByteArray)).size = u.size + 1 := by rw [ByteArray.size_append, hz1]
          generalize (⟨#[z]⟩ : ByteArray) = Z at *
          clear hz hr
          rcases hr2 with rfl | rfl
          all_goals
            have hcv1 := hcv 1
            have hcv2 := hcv 2
            clear hcv
            go_wp2
            go_roundw
            case rel => exact ⟨q + 1, _, by omega, by go_num, rfl, by omega, bon hbw (ba1 _ _)⟩
            case measure => simp [intOf]; omega
        · have hqi : ¬ (q : Int) < 195 + (rv : Int) := by omega
          have hun : u.size ≤ 204 := by omega
          have hx2 : (⟨#[58]⟩ : ByteArray).size = 1 := rfl
          have hx3 : (⟨#[97, 58, 32]⟩ : ByteArray).size = 3 := rfl
          have z1 : (t ++ (⟨#[58]⟩ : ByteArray)).size = t.size + 1 := by rw [ByteArray.size_append, hx2]
          have z2 : (t ++ (⟨#[58]⟩ : ByteArray) ++ u).size = t.size + 1 + u.size := by rw [ByteArray.size_append, z1]
          have z3 : ((⟨#[97, 58, 32]⟩ : ByteArray) ++ u).size = 3 + u.size := by rw [ByteArray.size_append, hx3]
          have H1 := Lib.hid (fun W => same_any t (by omega) W)
          have H2 := Lib.hid (fun W => same_any u (by omega) W)
          have H3 := Lib.hid (fun W => same_any (t ++ (⟨#[58]⟩ : ByteArray) ++ u) (by omega) W)
          have H4 := Lib.hid (fun W => same_any ((⟨#[97, 58, 32]⟩ : ByteArray) ++ u) (by omega) W)
          go_wp2_with fail
          refine (awake_any _).mono ?_
          rintro e w1 ⟨rfl, hb1⟩
          go_wp2_with fail
          refine (H1.out _).mono ?_
          rintro e w2 ⟨rfl, hb2⟩
          go_wp2_with fail
          refine (H2.out _).mono ?_
          rintro e w3 ⟨rfl, hb3⟩
          go_wp2_with fail
          refine (H3.out _).mono ?_
          rintro e w4 ⟨rfl, hb4⟩
          go_wp2_with fail
          refine (H4.out _).mono ?_
          rintro e w5 ⟨rfl, hb5⟩
          go_wp2
          go_ret
          exact ⟨by rfl, bon (bon (bon (bon (bon hbw hb1) hb2) hb3) hb4) hb5⟩

end Go.Proofs.YtlnekljbmfdgnaaDoor
