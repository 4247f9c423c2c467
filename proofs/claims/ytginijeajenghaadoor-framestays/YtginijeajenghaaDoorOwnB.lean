/-
  The walks of field's own Lower, match and Parse; strings.Cut at one byte.
-/
import Derived.Test.YtginijeajenghaaDoorOwnA
import Derived.Test.YtginijeajenghaaDoorRefC
namespace Go.Proofs.YtginijeajenghaaDoor
open Go.RowKit

/-- the bytes in the box, the first k of them in small letters -/
structure LowR (s : ByteArray) (g k : Nat) (w wr : World) : Prop where
  c : ∀ j (hj : j < s.size), wr.cell? ⟨g, j, none⟩ = some (.int .u8 (((if j < k then lowC s[j] else s[j]).toNat : Nat) : Int))
  f : ∀ j, j < s.size → wr.frozen? ⟨g, j, none⟩ = false
  hb : Below w.heap.size w wr
  le : w.heap.size ≤ g
theorem LowR.set {s : ByteArray} {g k : Nat} {w wr : World} (h : LowR s g k w wr) (hk : k < s.size) (v : Int) (hv : v = ((lowC s[k]).toNat : Int)) : LowR s g (k + 1) w (wr.setCell ⟨g, k, none⟩ (.int .u8 v)) where
  c j hj := by
    by_cases hjk : j = k
    · subst hjk
      rw [World.cell?_setCell_same' _ _ _ (by rw [h.c j hk]; rfl), if_pos (by omega), hv]
    · have hne : (⟨g, k, none⟩ : Addr) ≠ ⟨g, j, none⟩ := by intro e; exact hjk (by cases e; rfl)
      rw [World.cell?_setCell_other (h := hne), h.c j hj]
      by_cases hlt : j < k
      · rw [if_pos hlt, if_pos (by omega)]
      · rw [if_neg hlt, if_neg (by omega)]
  f j hj := by rw [World.frozen?_setCell]; exact h.f j hj
  hb := h.hb.setCell (p := ⟨g, k, none⟩) h.le _
  le := h.le
theorem LowR.skip {s : ByteArray} {g k : Nat} {w wr : World} (h : LowR s g k w wr) (hk : k < s.size) (hv : lowC s[k] = s[k]) : LowR s g (k + 1) w wr where
  c j hj := by
    rw [h.c j hj]
    by_cases hjk : j = k
    · subst hjk
      rw [if_neg (by omega), if_pos (by omega), hv]
    · by_cases hlt : j < k
      · rw [if_pos hlt, if_pos (by omega)]
      · rw [if_neg hlt, if_neg (by omega)]
  f := h.f
  hb := h.hb
  le := h.le
theorem LowR.done {s : ByteArray} {g : Nat} {w wr : World} (h : LowR s g s.size w wr) (cap : Nat) : (convert 22 9 (.slice (some ⟨g, 0, none⟩) s.size cap)).run Tryd.prog wr = .ok (.string ⟨(lowerL (dl s)).toArray⟩) wr := by
  have hl : (lowerL (dl s)).length = s.size := by rw [low_len, dl_len]
  have := run_convert_bytes_back (P := Tryd.prog) wr 22 9 5 ⟨g, 0, none⟩ cap (lowerL (dl s)) Tryd.underlying22 Tryd.underlying5 Tryd.underlying9 (fun j hj => by
    rw [hl] at hj
    rw [Addr.add_lit, Nat.zero_add, h.c j hj, if_pos hj]
    congr 4
    simp only [lowerL, List.getElem_map]
    congr 1)
  rw [hl] at this
  exact this
theorem LowR.start (s : ByteArray) (cap : Nat) (w : World) : LowR s w.heap.size 0 w (w.drew.alloc (.cells (bytesRow s cap) 5 ((bytesRow s cap).size, (bytesRow s cap).size + 1))) where
  c j hj := by
    rw [if_neg (by omega)]
    have hg : (w.drew.alloc (.cells (bytesRow s cap) 5 ((bytesRow s cap).size, (bytesRow s cap).size + 1))).heap[w.heap.size]? = some (.cells (bytesRow s cap) 5 ((bytesRow s cap).size, (bytesRow s cap).size + 1)) := heap_alloc_new w.drew _
    rw [cell_of_row _ _ _ _ _ _ hg]
    exact bytesRow_at s cap j hj
  f j hj := by
    have hg : (w.drew.alloc (.cells (bytesRow s cap) 5 ((bytesRow s cap).size, (bytesRow s cap).size + 1))).heap[w.heap.size]? = some (.cells (bytesRow s cap) 5 ((bytesRow s cap).size, (bytesRow s cap).size + 1)) := heap_alloc_new w.drew _
    have hz : j < (bytesRow s cap).size := (Array.getElem?_eq_some_iff.1 (bytesRow_at s cap j hj)).1
    unfold World.frozen?
    rw [hg]
    simp only [Bool.and_eq_false_iff, decide_eq_false_iff_not]
    exact .inl (by omega)
  hb := ((Below.refl _ _).drew).alloc (Nat.le_refl _) _
  le := Nat.le_refl _

set_option maxRecDepth 100000 in
set_option maxHeartbeats 2000000 in
theorem lower_any (s : ByteArray) (hs : s.size ≤ 4096) (w : World) : Calls Tryd.prog 41 #[.string s] w (TextEnds (lowerL (dl s)) w) := by
  have hcv := run_bytes_of_string (P := Tryd.prog) w 9 22 5 s Tryd.underlying9 Tryd.underlying22 Tryd.underlying5
  obtain ⟨cap, hcap⟩ : ∃ cap, grownCap w s.size 0 5 = cap := ⟨_, rfl⟩
  rw [hcap] at hcv
  clear hcap
  have hst := LowR.start s cap w
  obtain ⟨g, hg⟩ : ∃ g, w.heap.size = g := ⟨_, rfl⟩
  have hst' : LowR s g 0 w (w.drew.alloc (.cells (bytesRow s cap) 5 ((bytesRow s cap).size, (bytesRow s cap).size + 1))) := by rw [← hg]; exact hst
  rw [hg] at hcv
  clear hst hg
  generalize w.drew.alloc (.cells (bytesRow s cap) 5 ((bytesRow s cap).size, (bytesRow s cap).size + 1)) = W0 at *
  have HST := Lib.hid hst'
  clear hst'
  go_enter Tryd.func41, Tryd.ntmps41
  go_wp2_with fail
  go_loopw [10] (fun i wr => ∃ k : Nat, k ≤ s.size ∧ i = .int .i64 (k : Int) ∧ Hid (LowR s g k w wr)) (fun i _ => s.size - (intOf i).toNat)
  case atStart => exact ⟨0, Nat.zero_le _, rfl, HST⟩
  case round =>
    obtain ⟨k, hk, rfl, HR⟩ := hrel
    by_cases hlt : k < s.size
    · have c0 := HR.out.c k hlt
      rw [if_neg (by omega)] at c0
      have f0 := HR.out.f k hlt
      have HL := Lib.hid (lowC_nat s[k])
      have hc := (s[k]).toNat_lt
      have HN : Hid (((lowC s[k]).toNat : Int) = ((s[k]).toNat : Int) → LowR s g (k + 1) w wr) := Lib.hid (fun h => HR.out.skip hlt (UInt8.toNat_inj.1 (by omega)))
      have HY : Hid (∀ v : Int, v = ((lowC s[k]).toNat : Int) → LowR s g (k + 1) w (wr.setCell ⟨g, k, none⟩ (.int .u8 v))) := Lib.hid (fun v h => HR.out.set hlt v h)
      obtain ⟨n, hn⟩ : ∃ n, (s[k]).toNat = n := ⟨_, rfl⟩
      rw [hn] at hc HL c0 HN
      clear HR hn
      by_cases hcap : 65 ≤ n ∧ n ≤ 90
      · have HE : Hid (LowR s g (k + 1) w (wr.setCell ⟨g, k, none⟩ (.int .u8 ((n : Int) - 65 + 97)))) := Lib.hid (HY.out _ (by rw [HL.out, if_pos hcap]; omega))
        obtain ⟨a1, a2⟩ := hcap
        clear HY HN HL
        go_wp2
        go_roundw
        case rel => exact ⟨k + 1, by omega, by go_num, by first | exact HE | trace_state⟩
        case measure => simp [intOf]; omega
      · have HE : Hid (LowR s g (k + 1) w wr) := Lib.hid (HN.out (by rw [HL.out, if_neg hcap]))
        have hcase : n < 65 ∨ 90 < n := by omega
        clear hcap HN HY HL
        rcases hcase with a1 | a1
        all_goals
          go_wp2
          go_roundw
          case rel => exact ⟨k + 1, by omega, by go_num, HE⟩
          case measure => simp [intOf]; omega
    · obtain rfl : k = s.size := by omega
      have hback := HR.out.done cap
      have hb := HR.out.hb
      go_wp2
      go_ret
      exact ⟨_, rfl, dl_mk _, hb⟩

set_option maxHeartbeats 1000000 in
theorem match_any (a b : ByteArray) (ha : a.size ≤ 4096) (hb : b.size ≤ 4096) (w : World) : Calls Tryd.prog 39 #[.string a, .string b] w (BoolEnds (decide (lowerL (dl a) = lowerL (dl b))) w) := by
  go_enter Tryd.func39, Tryd.ntmps39
  go_wp2_with fail
  refine (lower_any a ha _).mono ?_
  rintro e w1 ⟨x, rfl, hx, hb1⟩
  go_wp2_with fail
  refine (lower_any b hb _).mono ?_
  rintro e w2 ⟨y, rfl, hy, hb2⟩
  by_cases hq : x = y
  · have HE : Hid (decide (lowerL (dl a) = lowerL (dl b)) = true) := Lib.hid (decide_eq_true (by rw [← hx, ← hy, hq]))
    subst hq
    clear hx hy
    go_wp2
    go_ret
    exact ⟨ret_bool (by rw [HE.out]; try simp), bon hb1 hb2⟩
  · have HE : Hid (decide (lowerL (dl a) = lowerL (dl b)) = false) := Lib.hid (decide_eq_false (by rw [← hx, ← hy]; exact fun h => hq (dl_inj h)))
    have hrs : (x.toList == y.toList) = false := tl_ne hq
    clear hx hy
    go_wp2
    go_ret
    exact ⟨ret_bool (by rw [HE.out]), bon hb1 hb2⟩

/-- two texts and whether the byte was found -/
def CutEnds (c : UInt8) (l : Bs) (w : World) (e : Ending) (w' : World) : Prop :=
  ∃ (a b : ByteArray), e = .returned (.tuple #[.string a, .string b, .bool (l.contains c)]) ∧ dl a = befL c l ∧ dl b = aftL c l ∧ Below w.heap.size w w'

set_option maxRecDepth 100000 in
set_option maxHeartbeats 1000000 in
theorem cut41 (c : UInt8) (s : ByteArray) (hs : s.size ≤ 4096) (w : World) : Calls Tryd.prog 65 #[.string s, .string ⟨#[c]⟩] w (CutEnds c (dl s) w) := by
  obtain ⟨z, hz⟩ : ∃ z, Lib.indexByte (dl s) c = z := ⟨_, rfl⟩
  have HC := Lib.hid (fun W => sh_Index_one s c W)
  rw [hz] at HC
  have hz1 := Lib.indexByte_ge (dl s) c
  rw [hz] at hz1
  have hsep : (⟨#[c]⟩ : ByteArray).size = 1 := rfl
  generalize (⟨#[c]⟩ : ByteArray) = sep at *
  by_cases hneg : z = -1
  · subst hneg
    have HX := Lib.hid (cut_none (c := c) (l := dl s) (fun j _ => Lib.indexByte_none hz j))
    clear hz
    go_enter Tryd.func65, Tryd.ntmps65
    go_wp2_with fail
    refine (HC.out _).mono ?_
    rintro e w' ⟨rfl, rfl⟩
    go_wp2
    refine bodyPost_ret (v := .tuple #[.string s, .string ⟨#[]⟩, .bool false]) (by simp [results, Tryd.results65, go_sem]) rfl ?_
    exact ⟨s, ⟨#[]⟩, by rw [HX.out.2.2], HX.out.1.symm, HX.out.2.1.symm, Below.refl _ _⟩
  · obtain ⟨k, rfl⟩ := Int.eq_ofNat_of_zero_le (show 0 ≤ z by omega)
    have hsome := Lib.indexByte_some hz
    have hkl : k < s.size := by rw [← dl_len]; exact (List.getElem?_eq_some_iff.1 hsome.1).1
    have HX := Lib.hid (cut_at (c := c) (l := dl s) hsome.1 (fun j hj => hsome.2 j hj))
    clear hz hsome hz1 hneg
    have he1 : (0 : Int) ≤ (k : Int) := by omega
    have he2 : (k : Int) ≤ (s.size : Int) := by omega
    have he3 : (k : Int) + 1 ≤ (s.size : Int) := by omega
    have he4 : (0 : Int) ≤ (k : Int) + 1 := by omega
    have he5 : ((k : Int) + 1).toNat = k + 1 := by omega
    have he6 : k + 1 ≤ s.size := by omega
    have he7 : IntKind.i64.wrap ((k : Int) + 1) = (k : Int) + 1 := IntWalk.i64_in _ (by omega)
    go_enter Tryd.func65, Tryd.ntmps65
    go_wp2_with fail
    refine (HC.out _).mono ?_
    rintro e w' ⟨rfl, rfl⟩
    go_wp2_with fail
    go_quiet (fail)
    go_wp2
    refine bodyPost_ret (v := .tuple #[.string (s.extract 0 k), .string (s.extract (k + 1) s.size), .bool true]) (by simp [results, Tryd.results65, go_sem]) rfl ?_
    refine ⟨s.extract 0 k, s.extract (k + 1) s.size, by rw [HX.out.2.2], ?_, ?_, below_drewN (Below.refl _ _) _⟩
    · rw [dl_ext, HX.out.1, List.drop_zero]
    · rw [dl_ext, HX.out.2.1, List.take_of_length_le (by rw [dl_len]; exact Nat.le_refl _)]

set_option maxHeartbeats 1000000 in
theorem cut_any (c : UInt8) (s : ByteArray) (hs : s.size ≤ 4096) (w : World) : Calls Tryd.prog 54 #[.string s, .string ⟨#[c]⟩] w (CutEnds c (dl s) w) := by
  have HC := Lib.hid (fun W => cut41 c s hs W)
  generalize (⟨#[c]⟩ : ByteArray) = sep at *
  go_enter Tryd.func54, Tryd.ntmps54
  go_wp2_with fail
  refine (HC.out _).mono ?_
  rintro e w' ⟨a, b, rfl, ha, hb, hbw⟩
  have HAB := Lib.hid (And.intro ha hb)
  clear ha hb
  go_wp2
  refine bodyPost_ret (v := .tuple #[.string a, .string b, .bool ((dl s).contains c)]) (by simp [results, Tryd.results54, go_sem]) rfl ?_
  exact ⟨a, b, rfl, HAB.out.1, HAB.out.2, hbw⟩

end Go.Proofs.YtginijeajenghaaDoor
