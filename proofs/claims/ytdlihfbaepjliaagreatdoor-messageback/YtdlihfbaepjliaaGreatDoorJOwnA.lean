/-
  The walks of field's own calls on texts: inName, inValue, Name, Trim, Value.
-/
import Derived.Test.YtdlihfbaepjliaaGreatDoorShelf
import Derived.Test.YtdlihfbaepjliaaGreatDoorJNRef3
import Derived.Test.YtdlihfbaepjliaaGreatDoorProg
import Derived.Lib.SlTrimSet
import Derived.WalkKit
import Derived.Lib.Split
import Derived.WalkSpells
import Derived.WalkLawsBesides
import Derived.WalkSmall
import Derived.Lib.Hide
import Derived.IntWalk
import Derived.BigQuiet
import Derived.Laws.OwnMore
import Derived.Deep.AppendLies
import Derived.Deep.RegionLaw
import Derived.Deep.Upon
import Derived.Deep.DeepCutAuto
import Derived.Lib.IndexLaws
import Derived.Shelf.LaysM
import Derived.Shelf.Small.Strs
import Derived.Shelf.Small.Wraps
import Derived.Shelf.Strings.Search1
import Derived.Shelf.Strings.Search2
import Derived.Shelf.Strings.SlTrimAscii
import Derived.Shelf.Strings.Split
import Derived.Shelf.Strings.Prefix
import Derived.Shelf.Strconv.Itoa4
import Derived.Lib.SmallJoins
import Derived.Lib.LaidTab
import Derived.Lib.AppendIntMem
import Derived.Lib.IndexAny
namespace Go.Proofs.YtdlihfbaepjliaaGreatDoor
open Go.RowKit

theorem u8_of (c : UInt8) : ((c.toNat : Int)).toNat.toUInt8 = c := by simp

set_option maxRecDepth 100000 in
set_option maxHeartbeats 1000000 in
theorem inName_any (c : UInt8) (w : World) : Calls Tryz.prog 92 #[.int .u8 (c.toNat : Int)] w (fun e w' => e = .returned (.bool (nameC c)) ∧ w' = w) := by
  have hc := c.toNat_lt
  obtain ⟨z, hz⟩ : ∃ z, Lib.indexByte marks c = z := ⟨_, rfl⟩
  have HX : Hid (∀ W, Calls Tryz.prog 113 #[.string ⟨#[33, 35, 36, 37, 38, 39, 42, 43, 45, 46, 94, 95, 96, 124, 126]⟩, .int .u8 (c.toNat : Int)] W fun e w' => e = .returned (.int .i64 z) ∧ w' = W) := Lib.hid (fun W => by
    have := sh_IndexByte ⟨#[33, 35, 36, 37, 38, 39, 42, 43, 45, 46, 94, 95, 96, 124, 126]⟩ (c.toNat : Int) W
    rw [u8_of] at this
    rw [← hz]
    exact this)
  have HM : Hid (marks.contains c = decide (0 ≤ z)) := Lib.hid (by rw [← hz]; exact Lib.contains_iff_indexByte _ _)
  clear hz
  obtain ⟨n, hn⟩ : ∃ n, c.toNat = n := ⟨_, rfl⟩
  by_cases ha : alnum n = true
  · have HE : Hid (nameC c = true) := Lib.hid (by rw [nameC, hn, ha]; rfl)
    rw [hn] at hc ⊢
    clear hn HX HM
    have ha' : (48 ≤ n ∧ n ≤ 57) ∨ (97 ≤ n ∧ n ≤ 122) ∨ (65 ≤ n ∧ n ≤ 90) := by
      unfold alnum at ha
      simp only [decide_eq_true_eq] at ha
      omega
    clear ha
    rcases ha' with ⟨h1, h2⟩ | ⟨h1, h2⟩ | ⟨h1, h2⟩
    all_goals
      go_enter Tryz.func92, Tryz.ntmps92
      go_wp2
      go_ret
      exact ⟨ret_bool HE.out.symm, rfl⟩
  · have HE : Hid (nameC c = decide (0 ≤ z)) := Lib.hid (by rw [nameC, hn, Bool.eq_false_iff.2 ha, Bool.false_or, HM.out])
    rw [hn] at hc HX ⊢
    clear hn HM
    have ha' : n < 48 ∨ (57 < n ∧ n < 65) ∨ (90 < n ∧ n < 97) ∨ 122 < n := by
      unfold alnum at ha
      simp only [decide_eq_true_eq] at ha
      omega
    clear ha
    rcases ha' with h1 | ⟨h1, h2⟩ | ⟨h1, h2⟩ | h1
    all_goals
      go_enter Tryz.func92, Tryz.ntmps92
      go_wp2_with fail
      refine (HX.out _).mono ?_
      rintro e w' ⟨rfl, rfl⟩
      go_wp2
      go_ret
      exact ⟨ret_bool (by first | exact HE.out.symm | (rw [HE.out, Bool.eq_iff_iff]; simp; omega)), rfl⟩

set_option maxHeartbeats 400000 in
theorem inValue_any (c : UInt8) (w : World) : Calls Tryz.prog 112 #[.int .u8 (c.toNat : Int)] w (fun e w' => e = .returned (.bool (valC c)) ∧ w' = w) := by
  have HV := Lib.hid (valC_eq c)
  have hc := c.toNat_lt
  obtain ⟨n, hn⟩ : ∃ n, c.toNat = n := ⟨_, rfl⟩
  rw [hn] at hc HV ⊢
  clear hn
  by_cases h9 : n = 9
  · subst h9
    go_enter Tryz.func112, Tryz.ntmps112
    go_wp2
    go_ret
    exact ⟨ret_bool (by rw [HV.out]; rfl), rfl⟩
  · have e1 : ((n : Int) == 9) = false := beq_eq_false_iff_ne.2 (by omega)
    by_cases h1 : 32 ≤ n
    · go_enter Tryz.func112, Tryz.ntmps112
      go_wp2
      go_ret
      exact ⟨ret_bool (by rw [HV.out, decide_eq_false h9, decide_eq_true h1]; simp; omega), rfl⟩
    · go_enter Tryz.func112, Tryz.ntmps112
      go_wp2
      go_ret
      exact ⟨ret_bool (by rw [HV.out, decide_eq_false h9, decide_eq_false h1]; rfl), rfl⟩

set_option maxHeartbeats 1000000 in
theorem name_any (s : ByteArray) (hs : s.size ≤ 4096) (w : World) : Calls Tryz.prog 72 #[.string s] w (fun e w' => e = .returned (.bool (nameB (dl s))) ∧ w' = w) := by
  by_cases hz : s.size < 1 ∨ (1 ≤ s.size ∧ 40 < s.size)
  · have HE : Hid (nameB (dl s) = false) := Lib.hid (by
      rw [nameB, dl_len]
      rcases hz with h | ⟨_, h⟩
      · rw [decide_eq_false (by omega)]; rfl
      · rw [decide_eq_false (p := s.size ≤ 40) (by omega), Bool.and_false]; rfl)
    rcases hz with h | ⟨h, h'⟩
    all_goals
      go_enter Tryz.func72, Tryz.ntmps72
      go_wp2
      go_ret
      exact ⟨ret_bool HE.out.symm, rfl⟩
  · have h1 : 1 ≤ s.size := by omega
    have h40 : s.size ≤ 40 := by omega
    clear hz
    go_enter Tryz.func72, Tryz.ntmps72
    go_wp2_with fail
    go_loopw [14] (fun i wr => ∃ k : Nat, k ≤ s.size ∧ i = .int .i64 (k : Int) ∧ Hid (∀ j, j < k → (dl s)[j]?.all nameC = true) ∧ w = wr) (fun i _ => s.size - (intOf i).toNat)
    case atStart => exact ⟨0, Nat.zero_le _, rfl, Lib.hid (fun j hj => absurd hj (by omega)), rfl⟩
    case round =>
      obtain ⟨k, hk, rfl, HK, rfl⟩ := hrel
      by_cases hlt : k < s.size
      · have HC := Lib.hid (fun W => inName_any s[k] W)
        have HA : Hid ((dl s)[k]?.all nameC = nameC s[k]) := Lib.hid (by rw [dl_at hlt]; rfl)
        obtain ⟨b, hb⟩ : ∃ b, nameC s[k] = b := ⟨_, rfl⟩
        rw [hb] at HC HA
        clear hb
        go_wp2_with fail
        refine (HC.out _).mono ?_
        rintro e w' ⟨rfl, rfl⟩
        cases b with
        | false =>
          have HE : Hid (nameB (dl s) = false) := Lib.hid (all_no HA.out)
          go_wp2
          go_ret
          exact ⟨ret_bool HE.out.symm, rfl⟩
        | true =>
          go_wp2
          go_roundw
          case rel =>
            refine ⟨k + 1, by omega, by go_num, Lib.hid (fun j hj => ?_), trivial⟩
            by_cases hjk : j < k
            · exact HK.out j hjk
            · obtain rfl : j = k := by omega
              exact HA.out
          case measure => simp [intOf]; omega
      · obtain rfl : k = s.size := by omega
        have HE : Hid (nameB (dl s) = true) := Lib.hid (by rw [nameB, all_yes HK.out, dl_len, decide_eq_true h1, decide_eq_true h40]; rfl)
        go_wp2
        go_ret
        exact ⟨ret_bool HE.out.symm, rfl⟩

theorem trim_any (s : ByteArray) (hs : s.size ≤ 4096) (w : World) : Calls Tryz.prog 111 #[.string s] w (TextEnds (trimL (dl s)) w) := by
  have HC := Lib.hid (fun W => sh_Trim s ⟨#[32, 9]⟩ W (by omega) (by decide) (ascii_of_all (by decide)))
  go_enter Tryz.func111, Tryz.ntmps111
  go_wp2_with fail
  refine (HC.out _).mono ?_
  rintro e w' ⟨rfl, hb⟩
  go_wp2
  go_ret
  exact ⟨_, rfl, dl_mk _, hb⟩

set_option maxHeartbeats 1000000 in
theorem value_any (s : ByteArray) (hs : s.size ≤ 4096) (w : World) : Calls Tryz.prog 91 #[.string s] w (BoolEnds (valueB (dl s)) w) := by
  by_cases h2 : s.size ≤ 200
  · have HC := Lib.hid (fun W => trim_any s hs W)
    go_enter Tryz.func91, Tryz.ntmps91
    go_wp2_with fail
    refine (HC.out _).mono ?_
    rintro e w1 ⟨r, rfl, hr, hb1⟩
    by_cases hq : r = s
    · subst hq
      have HT : Hid (trimL (dl r) = dl r) := Lib.hid hr.symm
      clear hr
      go_wp2_with fail
      go_loopw [15] (fun i wr => ∃ k : Nat, k ≤ r.size ∧ i = .int .i64 (k : Int) ∧ Hid (∀ j, j < k → (dl r)[j]?.all valC = true) ∧ w1 = wr) (fun i _ => r.size - (intOf i).toNat)
      case atStart => exact ⟨0, Nat.zero_le _, rfl, Lib.hid (fun j hj => absurd hj (by omega)), rfl⟩
      case round =>
        obtain ⟨k, hk, rfl, HK, rfl⟩ := hrel
        by_cases hlt : k < r.size
        · have HC := Lib.hid (fun W => inValue_any r[k] W)
          have HA : Hid ((dl r)[k]?.all valC = valC r[k]) := Lib.hid (by rw [dl_at hlt]; rfl)
          obtain ⟨b, hb⟩ : ∃ b, valC r[k] = b := ⟨_, rfl⟩
          rw [hb] at HC HA
          clear hb
          go_wp2_with fail
          refine (HC.out _).mono ?_
          rintro e w' ⟨rfl, rfl⟩
          cases b with
          | false =>
            have HE : Hid (valueB (dl r) = false) := Lib.hid (all_noV HA.out)
            go_wp2
            go_ret
            exact ⟨ret_bool HE.out.symm, hb1⟩
          | true =>
            go_wp2
            go_roundw
            case rel =>
              refine ⟨k + 1, by omega, by go_num, Lib.hid (fun j hj => ?_), trivial⟩
              by_cases hjk : j < k
              · exact HK.out j hjk
              · obtain rfl : j = k := by omega
                exact HA.out
            case measure => simp [intOf]; omega
        · obtain rfl : k = r.size := by omega
          have HE : Hid (valueB (dl r) = true) := Lib.hid (by rw [valueB, all_yes HK.out, dl_len, decide_eq_true h2, decide_eq_true HT.out]; rfl)
          go_wp2
          go_ret
          exact ⟨ret_bool HE.out.symm, hb1⟩
    · have HE : Hid (valueB (dl s) = false) := Lib.hid (by
        rw [valueB, decide_eq_false (p := trimL (dl s) = dl s) (fun h => hq (dl_inj (hr.trans h))), Bool.and_false]; rfl)
      have hrs : (r.toList == s.toList) = false := tl_ne hq
      clear hr
      go_wp2
      go_ret
      exact ⟨ret_bool HE.out.symm, hb1⟩
  · have HE : Hid (valueB (dl s) = false) := Lib.hid (by rw [valueB, dl_len, decide_eq_false h2]; rfl)
    go_enter Tryz.func91, Tryz.ntmps91
    go_wp2
    go_ret
    exact ⟨ret_bool HE.out.symm, Below.refl _ _⟩

end Go.Proofs.YtdlihfbaepjliaaGreatDoor

/-
  The walks of field's own Lower, match and Parse; strings.Cut at one byte.
-/
namespace Go.Proofs.YtdlihfbaepjliaaGreatDoor
open Go.RowKit

/-- the bytes in the box, the first k of them in small letters -/
structure LowR (s : ByteArray) (g k : Nat) (w wr : World) : Prop where
  c : ∀ j (hj : j < s.size), wr.cell? ⟨g, j, none⟩ = some (.int .u8 (((if j < k then lowC s[j] else s[j]).toNat : Nat) : Int))
  f : ∀ j, j < s.size → wr.frozen? ⟨g, j, none⟩ = false
  hb : Below w.heap.size w wr
  le : w.heap.size ≤ g
theorem LowR.set {s : ByteArray} {g k : Nat} {w wr : World} (h : LowR s g k w wr) (hk : k < s.size) (v : Int) (hv : v = ((lowC s[k]).toNat : Int)) : LowR s g (k + 1) w (wr.setCell ⟨g, k, none⟩ (.int .u8 v)) where
  c j hj := by
    by_cases hjk : j = k
    · subst hjk
      rw [World.cell?_setCell_same' _ _ _ (by rw [h.c j hk]; rfl), if_pos (by omega), hv]
    · have hne : (⟨g, k, none⟩ : Addr) ≠ ⟨g, j, none⟩ := by intro e; exact hjk (by cases e; rfl)
      rw [World.cell?_setCell_other (h := hne), h.c j hj]
      by_cases hlt : j < k
      · rw [if_pos hlt, if_pos (by omega)]
      · rw [if_neg hlt, if_neg (by omega)]
  f j hj := by rw [World.frozen?_setCell]; exact h.f j hj
  hb := h.hb.setCell (p := ⟨g, k, none⟩) h.le _
  le := h.le
theorem LowR.skip {s : ByteArray} {g k : Nat} {w wr : World} (h : LowR s g k w wr) (hk : k < s.size) (hv : lowC s[k] = s[k]) : LowR s g (k + 1) w wr where
  c j hj := by
    rw [h.c j hj]
    by_cases hjk : j = k
    · subst hjk
      rw [if_neg (by omega), if_pos (by omega), hv]
    · by_cases hlt : j < k
      · rw [if_pos hlt, if_pos (by omega)]
      · rw [if_neg hlt, if_neg (by omega)]
  f := h.f
  hb := h.hb
  le := h.le
theorem LowR.done {s : ByteArray} {g : Nat} {w wr : World} (h : LowR s g s.size w wr) (cap : Nat) : (convert 22 9 (.slice (some ⟨g, 0, none⟩) s.size cap)).run Tryz.prog wr = .ok (.string ⟨(lowerL (dl s)).toArray⟩) wr := by
  have hl : (lowerL (dl s)).length = s.size := by rw [low_len, dl_len]
  have := run_convert_bytes_back (P := Tryz.prog) wr 22 9 5 ⟨g, 0, none⟩ cap (lowerL (dl s)) Tryz.underlying22 Tryz.underlying5 Tryz.underlying9 (fun j hj => by
    rw [hl] at hj
    rw [Addr.add_lit, Nat.zero_add, h.c j hj, if_pos hj]
    congr 4
    simp only [lowerL, List.getElem_map]
    congr 1)
  rw [hl] at this
  exact this
theorem LowR.start (s : ByteArray) (cap : Nat) (w : World) : LowR s w.heap.size 0 w (w.drew.alloc (.cells (bytesRow s cap) 5 ((bytesRow s cap).size, (bytesRow s cap).size + 1))) where
  c j hj := by
    rw [if_neg (by omega)]
    have hg : (w.drew.alloc (.cells (bytesRow s cap) 5 ((bytesRow s cap).size, (bytesRow s cap).size + 1))).heap[w.heap.size]? = some (.cells (bytesRow s cap) 5 ((bytesRow s cap).size, (bytesRow s cap).size + 1)) := heap_alloc_new w.drew _
    rw [cell_of_row _ _ _ _ _ _ hg]
    exact bytesRow_at s cap j hj
  f j hj := by
    have hg : (w.drew.alloc (.cells (bytesRow s cap) 5 ((bytesRow s cap).size, (bytesRow s cap).size + 1))).heap[w.heap.size]? = some (.cells (bytesRow s cap) 5 ((bytesRow s cap).size, (bytesRow s cap).size + 1)) := heap_alloc_new w.drew _
    have hz : j < (bytesRow s cap).size := (Array.getElem?_eq_some_iff.1 (bytesRow_at s cap j hj)).1
    unfold World.frozen?
    rw [hg]
    simp only [Bool.and_eq_false_iff, decide_eq_false_iff_not]
    exact .inl (by omega)
  hb := ((Below.refl _ _).drew).alloc (Nat.le_refl _) _
  le := Nat.le_refl _

set_option maxRecDepth 100000 in
set_option maxHeartbeats 2000000 in
theorem lower_any (s : ByteArray) (hs : s.size ≤ 4096) (w : World) : Calls Tryz.prog 84 #[.string s] w (TextEnds (lowerL (dl s)) w) := by
  have hcv := run_bytes_of_string (P := Tryz.prog) w 9 22 5 s Tryz.underlying9 Tryz.underlying22 Tryz.underlying5
  obtain ⟨cap, hcap⟩ : ∃ cap, grownCap w s.size 0 5 = cap := ⟨_, rfl⟩
  rw [hcap] at hcv
  clear hcap
  have hst := LowR.start s cap w
  obtain ⟨g, hg⟩ : ∃ g, w.heap.size = g := ⟨_, rfl⟩
  have hst' : LowR s g 0 w (w.drew.alloc (.cells (bytesRow s cap) 5 ((bytesRow s cap).size, (bytesRow s cap).size + 1))) := by rw [← hg]; exact hst
  rw [hg] at hcv
  clear hst hg
  generalize w.drew.alloc (.cells (bytesRow s cap) 5 ((bytesRow s cap).size, (bytesRow s cap).size + 1)) = W0 at *
  have HST := Lib.hid hst'
  clear hst'
  go_enter Tryz.func84, Tryz.ntmps84
  go_wp2_with fail
  go_loopw [10] (fun i wr => ∃ k : Nat, k ≤ s.size ∧ i = .int .i64 (k : Int) ∧ Hid (LowR s g k w wr)) (fun i _ => s.size - (intOf i).toNat)
  case atStart => exact ⟨0, Nat.zero_le _, rfl, HST⟩
  case round =>
    obtain ⟨k, hk, rfl, HR⟩ := hrel
    by_cases hlt : k < s.size
    · have c0 := HR.out.c k hlt
      rw [if_neg (by omega)] at c0
      have f0 := HR.out.f k hlt
      have HL := Lib.hid (lowC_nat s[k])
      have hc := (s[k]).toNat_lt
      have HN : Hid (((lowC s[k]).toNat : Int) = ((s[k]).toNat : Int) → LowR s g (k + 1) w wr) := Lib.hid (fun h => HR.out.skip hlt (UInt8.toNat_inj.1 (by omega)))
      have HY : Hid (∀ v : Int, v = ((lowC s[k]).toNat : Int) → LowR s g (k + 1) w (wr.setCell ⟨g, k, none⟩ (.int .u8 v))) := Lib.hid (fun v h => HR.out.set hlt v h)
      obtain ⟨n, hn⟩ : ∃ n, (s[k]).toNat = n := ⟨_, rfl⟩
      rw [hn] at hc HL c0 HN
      clear HR hn
      by_cases hcap : 65 ≤ n ∧ n ≤ 90
      · have HE : Hid (LowR s g (k + 1) w (wr.setCell ⟨g, k, none⟩ (.int .u8 ((n : Int) - 65 + 97)))) := Lib.hid (HY.out _ (by rw [HL.out, if_pos hcap]; omega))
        obtain ⟨a1, a2⟩ := hcap
        clear HY HN HL
        go_wp2
        go_roundw
        case rel => exact ⟨k + 1, by omega, by go_num, by first | exact HE | trace_state⟩
        case measure => simp [intOf]; omega
      · have HE : Hid (LowR s g (k + 1) w wr) := Lib.hid (HN.out (by rw [HL.out, if_neg hcap]))
        have hcase : n < 65 ∨ 90 < n := by omega
        clear hcap HN HY HL
        rcases hcase with a1 | a1
        all_goals
          go_wp2
          go_roundw
          case rel => exact ⟨k + 1, by omega, by go_num, HE⟩
          case measure => simp [intOf]; omega
    · obtain rfl : k = s.size := by omega
      have hback := HR.out.done cap
      have hb := HR.out.hb
      go_wp2
      go_ret
      exact ⟨_, rfl, dl_mk _, hb⟩

set_option maxHeartbeats 1000000 in
theorem match_any (a b : ByteArray) (ha : a.size ≤ 4096) (hb : b.size ≤ 4096) (w : World) : Calls Tryz.prog 55 #[.string a, .string b] w (BoolEnds (decide (lowerL (dl a) = lowerL (dl b))) w) := by
  go_enter Tryz.func55, Tryz.ntmps55
  go_wp2_with fail
  refine (lower_any a ha _).mono ?_
  rintro e w1 ⟨x, rfl, hx, hb1⟩
  go_wp2_with fail
  refine (lower_any b hb _).mono ?_
  rintro e w2 ⟨y, rfl, hy, hb2⟩
  by_cases hq : x = y
  · have HE : Hid (decide (lowerL (dl a) = lowerL (dl b)) = true) := Lib.hid (decide_eq_true (by rw [← hx, ← hy, hq]))
    subst hq
    clear hx hy
    go_wp2
    go_ret
    exact ⟨ret_bool (by rw [HE.out]; try simp), bon hb1 hb2⟩
  · have HE : Hid (decide (lowerL (dl a) = lowerL (dl b)) = false) := Lib.hid (decide_eq_false (by rw [← hx, ← hy]; exact fun h => hq (dl_inj h)))
    have hrs : (x.toList == y.toList) = false := tl_ne hq
    clear hx hy
    go_wp2
    go_ret
    exact ⟨ret_bool (by rw [HE.out]), bon hb1 hb2⟩

/-- two texts and whether the byte was found -/
def CutEnds (c : UInt8) (l : Bs) (w : World) (e : Ending) (w' : World) : Prop :=
  ∃ (a b : ByteArray), e = .returned (.tuple #[.string a, .string b, .bool (l.contains c)]) ∧ dl a = befL c l ∧ dl b = aftL c l ∧ Below w.heap.size w w'

set_option maxRecDepth 100000 in
set_option maxHeartbeats 1000000 in
theorem cut41 (c : UInt8) (s : ByteArray) (hs : s.size ≤ 4096) (w : World) : Calls Tryz.prog 178 #[.string s, .string ⟨#[c]⟩] w (CutEnds c (dl s) w) := by
  obtain ⟨z, hz⟩ : ∃ z, Lib.indexByte (dl s) c = z := ⟨_, rfl⟩
  have HC := Lib.hid (fun W => sh_Index_one s c W)
  rw [hz] at HC
  have hz1 := Lib.indexByte_ge (dl s) c
  rw [hz] at hz1
  have hsep : (⟨#[c]⟩ : ByteArray).size = 1 := rfl
  generalize (⟨#[c]⟩ : ByteArray) = sep at *
  by_cases hneg : z = -1
  · subst hneg
    have HX := Lib.hid (cut_none (c := c) (l := dl s) (fun j _ => Lib.indexByte_none hz j))
    clear hz
    go_enter Tryz.func178, Tryz.ntmps178
    go_wp2_with fail
    refine (HC.out _).mono ?_
    rintro e w' ⟨rfl, rfl⟩
    go_wp2
    refine bodyPost_ret (v := .tuple #[.string s, .string ⟨#[]⟩, .bool false]) (by simp [results, Tryz.results178, go_sem]) rfl ?_
    exact ⟨s, ⟨#[]⟩, by rw [HX.out.2.2], HX.out.1.symm, HX.out.2.1.symm, Below.refl _ _⟩
  · obtain ⟨k, rfl⟩ := Int.eq_ofNat_of_zero_le (show 0 ≤ z by omega)
    have hsome := Lib.indexByte_some hz
    have hkl : k < s.size := by rw [← dl_len]; exact (List.getElem?_eq_some_iff.1 hsome.1).1
    have HX := Lib.hid (cut_at (c := c) (l := dl s) hsome.1 (fun j hj => hsome.2 j hj))
    clear hz hsome hz1 hneg
    have he1 : (0 : Int) ≤ (k : Int) := by omega
    have he2 : (k : Int) ≤ (s.size : Int) := by omega
    have he3 : (k : Int) + 1 ≤ (s.size : Int) := by omega
    have he4 : (0 : Int) ≤ (k : Int) + 1 := by omega
    have he5 : ((k : Int) + 1).toNat = k + 1 := by omega
    have he6 : k + 1 ≤ s.size := by omega
    have he7 : IntKind.i64.wrap ((k : Int) + 1) = (k : Int) + 1 := IntWalk.i64_in _ (by omega)
    go_enter Tryz.func178, Tryz.ntmps178
    go_wp2_with fail
    refine (HC.out _).mono ?_
    rintro e w' ⟨rfl, rfl⟩
    go_wp2_with fail
    go_quiet (fail)
    go_wp2
    refine bodyPost_ret (v := .tuple #[.string (s.extract 0 k), .string (s.extract (k + 1) s.size), .bool true]) (by simp [results, Tryz.results178, go_sem]) rfl ?_
    refine ⟨s.extract 0 k, s.extract (k + 1) s.size, by rw [HX.out.2.2], ?_, ?_, below_drewN (Below.refl _ _) _⟩
    · rw [dl_ext, HX.out.1, List.drop_zero]
    · rw [dl_ext, HX.out.2.1, List.take_of_length_le (by rw [dl_len]; exact Nat.le_refl _)]

set_option maxHeartbeats 1000000 in
theorem cut_any (c : UInt8) (s : ByteArray) (hs : s.size ≤ 4096) (w : World) : Calls Tryz.prog 164 #[.string s, .string ⟨#[c]⟩] w (CutEnds c (dl s) w) := by
  have HC := Lib.hid (fun W => cut41 c s hs W)
  generalize (⟨#[c]⟩ : ByteArray) = sep at *
  go_enter Tryz.func164, Tryz.ntmps164
  go_wp2_with fail
  refine (HC.out _).mono ?_
  rintro e w' ⟨a, b, rfl, ha, hb, hbw⟩
  have HAB := Lib.hid (And.intro ha hb)
  clear ha hb
  go_wp2
  refine bodyPost_ret (v := .tuple #[.string a, .string b, .bool ((dl s).contains c)]) (by simp [results, Tryz.results164, go_sem]) rfl ?_
  exact ⟨a, b, rfl, HAB.out.1, HAB.out.2, hbw⟩

set_option maxRecDepth 100000 in
set_option maxHeartbeats 4000000 in
theorem parse_any (s : ByteArray) (hs : s.size ≤ 4096) (w : World) : Calls Tryz.prog 143 #[.string s] w (ParseEnds (dl s) w) := by
  go_enter Tryz.func143, Tryz.ntmps143
  go_wp2_with fail
  have hg0 := Box.new w 40 #[.string ⟨#[]⟩, .string ⟨#[]⟩]
  have hb0 := ba1 w (.cells #[.string ⟨#[]⟩, .string ⟨#[]⟩] 40)
  obtain ⟨g, hg⟩ : ∃ g, w.heap.size = g := ⟨_, rfl⟩
  rw [hg] at hg0 ⊢
  have HG := Lib.hid hg
  clear hg
  generalize w.alloc (.cells #[.string ⟨#[]⟩, .string ⟨#[]⟩] 40) = W at *
  refine (cut_any 58 s hs _).mono ?_
  rintro e w1 ⟨n, v, rfl, hn, hv, hb1⟩
  have hns : n.size ≤ 4096 := by
    have h2 := (cut_len 58 (dl s)).1
    rw [← hn, dl_len, dl_len] at h2
    omega
  have hvs : v.size ≤ 4096 := by
    have h2 := (cut_len 58 (dl s)).2
    rw [← hv, dl_len, dl_len] at h2
    omega
  obtain ⟨b, hb⟩ : ∃ b, (dl s).contains 58 = b := ⟨_, rfl⟩
  rw [hb]
  have HB := Lib.hid hb
  clear hb
  go_wp2_with fail
  refine (trim_any v hvs _).mono ?_
  rintro e w2 ⟨t, rfl, ht, hb2⟩
  have hts : t.size ≤ 4096 := by
    have h2 := trim_len (dl v)
    rw [← ht, dl_len, dl_len] at h2
    omega
  have bg := (hg0.up hb1).up hb2
  have hbw := bon (bon hb0 hb1) hb2
  clear hg0 hb0 hb1 hb2
  have HNm := Lib.hid (fun W => name_any n hns W)
  have HVl := Lib.hid (fun W => value_any t hts W)
  have HN := Lib.hid hn
  have HT : Hid (dl t = trimL (aftL 58 (dl s))) := Lib.hid (by rw [ht, hv])
  rw [hn] at HNm
  rw [HT.out] at HVl
  clear hn hv ht
  obtain ⟨b2, hb⟩ : ∃ b, nameB (befL 58 (dl s)) = b := ⟨_, rfl⟩
  rw [hb] at HNm
  have HB2 := Lib.hid hb
  clear hb
  obtain ⟨b3, hb⟩ : ∃ b, valueB (trimL (aftL 58 (dl s))) = b := ⟨_, rfl⟩
  rw [hb] at HVl
  have HB3 := Lib.hid hb
  clear hb
  cases b with
  | false =>
    have HE : Hid (parse3 (dl s) = ([], [], 21)) := Lib.hid (parse_bad (fun h => by rw [HB.out] at h; cases h.1))
    obtain ⟨p0, p1, f0, f1⟩ := bg.two
    have HQ := Lib.hid (bg.set2 (.string ⟨#[]⟩) (.string ⟨#[]⟩)).two
    have HW := Lib.hid (below_set2 hbw (g := g) (by rw [HG.out]; exact Nat.le_refl _) (.string ⟨#[]⟩) (.string ⟨#[]⟩))
    go_wp2
    obtain ⟨q0, q1, _, _⟩ := HQ.out
    refine bodyPost_ret (v := .tuple #[.agg #[.string ⟨#[]⟩, .string ⟨#[]⟩], .int .i64 21]) (by simp [results, Tryz.results143, go_sem, q0, q1]) rfl ?_
    exact ⟨_, _, _, rfl, by rw [HE.out], by rw [HE.out], by rw [HE.out], HW.out⟩
  | true =>
    go_wp2_with fail
    refine (HNm.out _).mono ?_
    rintro e w3 ⟨rfl, rfl⟩
    cases b2 with
    | false =>
      have HE : Hid (parse3 (dl s) = ([], [], 21)) := Lib.hid (parse_bad (fun h => by rw [HB2.out] at h; cases h.2.1))
      obtain ⟨p0, p1, f0, f1⟩ := bg.two
      have HQ := Lib.hid (bg.set2 (.string ⟨#[]⟩) (.string ⟨#[]⟩)).two
      have HW := Lib.hid (below_set2 hbw (g := g) (by rw [HG.out]; exact Nat.le_refl _) (.string ⟨#[]⟩) (.string ⟨#[]⟩))
      go_wp2
      obtain ⟨q0, q1, _, _⟩ := HQ.out
      refine bodyPost_ret (v := .tuple #[.agg #[.string ⟨#[]⟩, .string ⟨#[]⟩], .int .i64 21]) (by simp [results, Tryz.results143, go_sem, q0, q1]) rfl ?_
      exact ⟨_, _, _, rfl, by rw [HE.out], by rw [HE.out], by rw [HE.out], HW.out⟩
    | true =>
      go_wp2_with fail
      refine (HVl.out _).mono ?_
      rintro e w4 ⟨rfl, hb4⟩
      have bg4 := bg.up hb4
      have hbw4 := bon hbw hb4
      clear bg hbw hb4
      obtain ⟨p0, p1, f0, f1⟩ := bg4.two
      cases b3 with
      | false =>
        have HE : Hid (parse3 (dl s) = ([], [], 21)) := Lib.hid (parse_bad (fun h => by rw [HB3.out] at h; cases h.2.2))
        have HQ := Lib.hid (bg4.set2 (.string ⟨#[]⟩) (.string ⟨#[]⟩)).two
        have HW := Lib.hid (below_set2 hbw4 (g := g) (by rw [HG.out]; exact Nat.le_refl _) (.string ⟨#[]⟩) (.string ⟨#[]⟩))
        go_wp2
        obtain ⟨q0, q1, _, _⟩ := HQ.out
        refine bodyPost_ret (v := .tuple #[.agg #[.string ⟨#[]⟩, .string ⟨#[]⟩], .int .i64 21]) (by simp [results, Tryz.results143, go_sem, q0, q1]) rfl ?_
        exact ⟨_, _, _, rfl, by rw [HE.out], by rw [HE.out], by rw [HE.out], HW.out⟩
      | true =>
        have HE : Hid (parse3 (dl s) = (befL 58 (dl s), trimL (aftL 58 (dl s)), 0)) := Lib.hid (if_pos ⟨HB.out, HB2.out, HB3.out⟩)
        have HQ := Lib.hid (bg4.set2 (.string n) (.string t)).two
        have HW := Lib.hid (below_set2 hbw4 (g := g) (by rw [HG.out]; exact Nat.le_refl _) (.string n) (.string t))
        go_wp2
        obtain ⟨q0, q1, _, _⟩ := HQ.out
        refine bodyPost_ret (v := .tuple #[.agg #[.string n, .string t], .int .i64 0]) (by simp [results, Tryz.results143, go_sem, q0, q1]) rfl ?_
        exact ⟨_, _, _, rfl, by rw [HE.out]; exact HN.out, by rw [HE.out]; exact HT.out, by rw [HE.out], HW.out⟩

end Go.Proofs.YtdlihfbaepjliaaGreatDoor
