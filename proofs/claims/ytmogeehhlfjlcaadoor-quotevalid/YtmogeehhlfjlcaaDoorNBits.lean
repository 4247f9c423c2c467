/-
  strconv.FormatInt at base 16: the library's own text, walked.
-/
import Derived.Test.YtmogeehhlfjlcaaDoorNParse
import Derived.Test.YtmogeehhlfjlcaaDoorWords
import Derived.Lib.LaidTab
import Derived.Laws.Bits64b
import Derived.Lib.AppendIntMem
namespace Go.Proofs.YtmogeehhlfjlcaaDoor
open Go.RowKit
theorem gB64 : Tryd.prog.globalNamed "math/bits.deBruijn64tab" = some 3 := by kernel_rfl

def tab64 : List Int := [0, 1, 56, 2, 57, 49, 28, 3, 61, 58, 42, 50, 38, 29, 17, 4, 62, 47, 59, 36, 45, 43, 51, 22, 53, 39, 33, 30, 24, 18, 12, 5, 63, 55, 48, 27, 60, 41, 37, 16, 46, 35, 44, 21, 52, 32, 23, 11, 54, 26, 40, 15, 34, 20, 31, 10, 25, 14, 19, 9, 13, 8, 7, 6]

/-- the library's table, as its text lays it -/
structure Tabs (w : World) : Prop where
  deb : Lib.TabIs Tryd.prog w "math/bits.deBruijn64tab" .u8 tab64

theorem Tabs.up {w w' : World} (h : Tabs w) (hb : Below w.heap.size w w') : Tabs w' :=
  ⟨Lib.tabBelow_of_tabIs h.deb w' hb⟩

end Go.Proofs.YtmogeehhlfjlcaaDoor
namespace Go.Proofs.YtmogeehhlfjlcaaDoor.Nm
open Go.RowKit
set_option maxHeartbeats 400000 in
theorem pow2_16 (w : World) : Calls Tryd.prog 49 #[.int .i64 16] w fun e w' => e = .returned (.bool true) ∧ w' = w := by
  go_enter Tryd.func49, Tryd.ntmps49
  go_wp2
  go_ret
  exact ⟨rfl, rfl⟩

set_option maxHeartbeats 400000 in
theorem tz64_16 (w : World) (h : Tabs w) : Calls Tryd.prog 55 #[.int .u64 16] w fun e w' => e = .returned (.int .i64 4) ∧ w' = w := by
  have hc0 := h.deb.cell gB64 15 (by decide)
  have hc : w.cell? ⟨3, 15, none⟩ = some (Value.int .u8 4) := hc0
  clear h hc0
  have e1 : IntKind.u64.wrap (-16) = 18446744073709551600 := by decide +kernel
  have e2 : bits BinOp.and IntKind.u64 16 18446744073709551600 = 16 := by decide +kernel
  have e3 : IntKind.u64.wrap (16 * 285870213051353865) = 4573923408821661840 := by decide +kernel
  go_enter Tryd.func55, Tryd.ntmps55
  go_wp2
  go_ret
  exact ⟨rfl, rfl⟩

set_option maxHeartbeats 400000 in
theorem tz_16 (w : World) (h : Tabs w) : Calls Tryd.prog 50 #[.int .u64 16] w fun e w' => e = .returned (.int .i64 4) ∧ w' = w := by
  go_enter Tryd.func50, Tryd.ntmps50
  go_wp2_with fail
  refine (tz64_16 _ h).mono ?_
  rintro e w1 ⟨rfl, rfl⟩
  go_wp2
  go_ret
  exact ⟨rfl, rfl⟩

theorem and15 (n : Nat) (h : n < 18446744073709551616) : bits BinOp.and IntKind.u64 (n : Int) 15 = ((n % 16 : Nat) : Int) := by
  have := bits_and_u64_nat n 15 h (by omega)
  rw [show (15 : Nat) = 2 ^ 4 - 1 by rfl, Nat.and_two_pow_sub_one_eq_mod] at this
  exact this

/-- the library's text of all digits -/
def digs36 : ByteArray := ⟨#[48, 49, 50, 51, 52, 53, 54, 55, 56, 57, 97, 98, 99, 100, 101, 102, 103, 104, 105, 106, 107, 108, 109, 110, 111, 112, 113, 114, 115, 116, 117, 118, 119, 120, 121, 122]⟩
theorem digs36_sz : digs36.size = 36 := by decide +kernel
theorem digs36_at : ∀ r : Fin 16, digs36[r.val]'(by rw [digs36_sz]; omega) = chN r.val := by decide +kernel
theorem idx36 (k : IntKind) (r : Nat) (h : r < 16) (w : World) : (Instr.index 9 (.string digs36) (.int k (r : Int))).run Tryd.prog w = .ok (.int .u8 ((chN r).toNat : Int)) w := by
  have hs : digs36.size = 36 := by decide +kernel
  rw [run_index_string w 9 digs36 k _ Tryd.underlying9, dif_pos ⟨by omega, by rw [hs]; omega⟩]
  have e : ((r : Int)).toNat = r := by omega
  simp only [e]
  rw [← digs36_at ⟨r, h⟩]

def u8v (c : UInt8) : Value := .int .u8 (c.toNat : Int)

/-- what stands between two rounds: the last digits are written, from place i on; those of cur are still to come -/
structure Left16 (u cur i : Nat) (cs : Array Value) : Prop where
  sz : cs.size = 65
  le : i ≤ 65
  few : cur < 16 ^ (i - 49)
  have_ : ∃ ds : List UInt8, dgs 16 u = dgs 16 cur ++ ds ∧ cs.toList.drop i = ds.map u8v

theorem drop_set (cs : Array Value) (i : Nat) (v : Value) (h : i < cs.size) : (cs.setIfInBounds i v).toList.drop i = v :: cs.toList.drop (i + 1) := by
  rw [Array.toList_setIfInBounds, List.drop_eq_getElem_cons (by simpa using h)]
  simp [List.drop_set]

theorem Left16.step {u cur i : Nat} {cs : Array Value} (h : Left16 u cur (i + 1) cs) (hc : 16 ≤ cur) : 49 < i ∧ Left16 u (cur / 16) i (cs.setIfInBounds i (u8v (chN (cur % 16)))) := by
  obtain ⟨ds, h1, h2⟩ := h.have_
  have hf := h.few
  have hi : 49 < i := by
    rcases Nat.lt_or_ge 49 i with hi | hi
    · exact hi
    · exfalso
      have : 16 ^ (i + 1 - 49) ≤ 16 ^ 1 := Nat.pow_le_pow_right (by omega) (by omega)
      omega
  refine ⟨hi, by simp [h.sz], by have := h.le; omega, ?_, chN (cur % 16) :: ds, ?_, ?_⟩
  · rw [Nat.div_lt_iff_lt_mul (by omega), ← Nat.pow_succ]
    rw [show (i - 49).succ = i + 1 - 49 by omega]
    exact hf
  · rw [h1, dgs_big (by omega) hc]
    simp
  · rw [drop_set _ _ _ (by have := h.sz; have := h.le; omega), h2]
    rfl

theorem Left16.last {u cur i : Nat} {cs : Array Value} (h : Left16 u cur (i + 1) cs) (hc : cur < 16) : (cs.setIfInBounds i (u8v (chN cur))).toList.drop i = (dgs 16 u).map u8v ∧ (cs.setIfInBounds i (u8v (chN cur))).size = 65 := by
  obtain ⟨ds, h1, h2⟩ := h.have_
  refine ⟨?_, by simp [h.sz]⟩
  rw [drop_set _ _ _ (by have := h.sz; have := h.le; omega), h2, h1, dgs_small hc]
  rfl

set_option maxRecDepth 100000 in
set_option maxHeartbeats 4000000 in
theorem bits_16 (u : Nat) (hu : u ≤ 9007199254740992) (w : World) (h : Tabs w) : Calls Tryd.prog 42 #[.slice none 0 0, .int .u64 (u : Int), .int .i64 16, .bool false, .bool false] w fun e w' => ∃ s : ByteArray, e = .returned (.tuple #[.slice none 0 0, .string s]) ∧ s.data.toList = dgs 16 u ∧ Below w.heap.size w w' := by
  have hz : ∀ W, Sem.run Tryd.prog (zeroValue 88) W = .ok (.agg (Array.replicate 65 (.int .u8 0))) W := fun W => by kernel_rfl
  go_enter Tryd.func42, Tryd.ntmps42
  go_wp2_with fail
  refine (pow2_16 _).mono ?_
  rintro e w1 ⟨rfl, hw⟩
  cases hw
  go_wp2_with fail
  refine (tz_16 _ (h.up (ba1 _ _))).mono ?_
  rintro e w1 ⟨rfl, hw⟩
  cases hw
  go_wp2_with fail
  go_name_bytes SM hSM
  have eSM : SM = digs36 := by rw [← hSM]; rfl
  subst eSM
  clear hSM
  go_loopw [13, 1] (fun vi vu wr => ∃ (i cur : Nat) (cs : Array Value), 49 < i ∧ i ≤ 65 ∧ vi = .int .i64 (i : Int) ∧ vu = .int .u64 (cur : Int) ∧ cur ≤ 9007199254740992 ∧ Left16 u cur i cs ∧ Box wr w.heap.size 88 cs ∧ Below w.heap.size w wr) (fun _ vu _ => (intOf vu).toNat)
  case atStart =>
    refine ⟨65, u, _, by omega, by omega, rfl, rfl, hu, ⟨?_, by omega, ?_, [], by simp, ?_⟩, Box.new _ _ _, ba1 _ _⟩
    · simp
    · exact Nat.lt_of_le_of_lt hu (by decide)
    · simp
  case round =>
    obtain ⟨i1, cur, cs, hi, hi65, rfl, rfl, hcu, HL, hbox, hbel⟩ := hrel
    obtain ⟨i, rfl⟩ : ∃ i, i1 = i + 1 := ⟨i1 - 1, by omega⟩
    have hsz := HL.sz
    obtain ⟨v0, hv0⟩ : ∃ v0, cs[i]? = some v0 := ⟨_, Array.getElem?_eq_getElem (by omega)⟩
    have hci := hbox.c i hv0
    have hfi := hbox.f i
    clear hsz hv0
    by_cases hc : 16 ≤ cur
    · obtain ⟨h49, HS⟩ := HL.step hc
      have t1 := and15 cur (by omega)
      have hr : cur % 16 < 16 := Nat.mod_lt _ (by omega)
      have hX := fun W => idx36 .u64 (cur % 16) hr W
      generalize cur % 16 = r at *
      go_wp2
      refine ⟨⟨i, cur / 16, _, h49, by omega, rfl, by simp, by omega, HS, hbox.set i _, hbel.setCell (p := ⟨_, _, none⟩) (Nat.le_refl _) _⟩, by simp [intOf]; omega⟩
    · obtain ⟨h1, h2⟩ := HL.last (by omega)
      have hX := fun W => idx36 .u64 cur (by omega) W
      unfold digs36 at hX
      have hal : Tryd.prog.arrayLen 88 = 65 := by kernel_rfl
      have hsl : ∀ W, (Instr.sliceAt 88 (.pointer (some ⟨w.heap.size, 0, none⟩)) (some (.int .i64 (i : Int))) none none).run Tryd.prog W = .ok (.slice (some ⟨w.heap.size, i, none⟩) (65 - i) (65 - i)) W := fun W => by
        rw [run_sliceAt_array_l W 88 ⟨w.heap.size, 0, none⟩ (by kernel_rfl) .i64 (i : Int) (by omega) (by rw [hal]; omega)]
        go_simp
        omega
      clear hal
      have hlen : (dgs 16 u).length = 65 - i := by
        have := congrArg List.length h1
        simp only [List.length_drop, List.length_map, Array.length_toList, h2] at this
        omega
      have hcv : (convert 22 9 (.slice (some ⟨w.heap.size, i, none⟩) (65 - i) (65 - i))).run Tryd.prog (wr.setCell ⟨w.heap.size, i, none⟩ (.int .u8 ((chN cur).toNat : Int))) = .ok (.string ⟨(dgs 16 u).toArray⟩) (wr.setCell ⟨w.heap.size, i, none⟩ (.int .u8 ((chN cur).toNat : Int))) := by
        have h := run_convert_bytes_back (P := Tryd.prog) (wr.setCell ⟨w.heap.size, i, none⟩ (.int .u8 ((chN cur).toNat : Int))) 22 9 5 ⟨w.heap.size, i, none⟩ (65 - i) (dgs 16 u) Tryd.underlying22 Tryd.underlying5 Tryd.underlying9 (fun j hj => by
          have hb := (hbox.set i (u8v (chN cur))).c (i + j) (v := u8v (dgs 16 u)[j]) (by
            rw [← Array.getElem?_toList, ← List.getElem?_drop, h1, List.getElem?_map, List.getElem?_eq_getElem hj]
            rfl)
          rw [Lib.add_plain]
          exact hb)
        rw [hlen] at h
        exact h
      have HB := Lib.hid (hbel.setCell (p := ⟨w.heap.size, i, none⟩) (Nat.le_refl _) (Value.int .u8 ((chN cur).toNat : Int)))
      clear h1 h2 hlen HL hbox hbel h
      go_wp2
      refine bodyPost_ret (v := .tuple #[.slice none 0 0, .string ⟨(dgs 16 u).toArray⟩]) (by simp [results, Tryd.results42, go_sem]) rfl ?_
      exact ⟨_, rfl, rfl, HB.out⟩

/-- strconv.FormatInt at base 16 -/
theorem fmt_16 (u : Nat) (hu : u ≤ 9007199254740992) (w : World) (h : Tabs w) : Calls Tryd.prog 28 #[.int .i64 (u : Int), .int .i64 16] w (TextEnds (dgs 16 u) w) := by
  have key : Calls Tryd.prog 34 #[.int .i64 (u : Int), .int .i64 16] w (TextEnds (dgs 16 u) w) := by
    go_enter Tryd.func34, Tryd.ntmps34
    go_wp2_with fail
    refine (bits_16 u hu _ h).mono ?_
    rintro e w1 ⟨s, rfl, hs, hb⟩
    go_wp2
    go_ret
    exact ⟨s, rfl, hs, hb⟩
  go_enter Tryd.func28, Tryd.ntmps28
  go_wp2_with fail
  refine key.mono ?_
  rintro e w1 ⟨s, rfl, hs, hb⟩
  go_wp2
  go_ret
  exact ⟨s, rfl, hs, hb⟩



set_option maxHeartbeats 1000000 in
theorem text_16 (n : Int) (w : World) (h : Tabs w) (hf : fitN n = true) : Calls Tryd.prog 19 #[.int .i64 n, .int .i64 16] w (TextEnds (textN n 16) w) := by
  rw [textN, if_pos ⟨hf, .inr rfl⟩]
  obtain ⟨h0, h1⟩ := fit_iff.1 hf
  obtain ⟨u, rfl⟩ := Int.eq_ofNat_of_zero_le h0
  have key : Calls Tryd.prog 28 #[.int .i64 (u : Int), .int .i64 16] w (TextEnds (dgs 16 u) w) := fmt_16 u (by omega) w h
  go_enter Tryd.func19, Tryd.ntmps19
  go_wp2_with fail
  refine (fits_any (u : Int) _).mono ?_
  rintro e w1 ⟨rfl, hw⟩
  subst hw
  rw [hf]
  go_wp2_with fail
  refine (isBase_any 16 _).mono ?_
  rintro e w2 ⟨rfl, hw⟩
  subst hw
  rw [show baseN 16 = true from rfl]
  go_wp2_with fail
  refine key.mono ?_
  rintro e w3 ⟨s, rfl, hs, hbl⟩
  go_wp2
  go_ret
  exact ⟨s, rfl, by simpa using hs, hbl⟩
end Go.Proofs.YtmogeehhlfjlcaaDoor.Nm
