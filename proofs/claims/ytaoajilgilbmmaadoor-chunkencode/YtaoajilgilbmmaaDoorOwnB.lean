/-
  The walks of field's own Lower, match and Parse; strings.Cut at one byte.
-/
import Derived.Test.YtaoajilgilbmmaaDoorOwnA
import Derived.Test.YtaoajilgilbmmaaDoorRefC
namespace Go.Proofs.YtaoajilgilbmmaaDoor
open Go.RowKit

/-- the bytes in the box, the first k of them in small letters -/
structure LowR (s : ByteArray) (g k : Nat) (w wr : World) : Prop where
  c : ∀ j (hj : j < s.size), wr.cell? ⟨g, j, none⟩ = some (.int .u8 (((if j < k then lowC s[j] else s[j]).toNat : Nat) : Int))
  f : ∀ j, j < s.size → wr.frozen? ⟨g, j, none⟩ = false
  hb : Below w.heap.size w wr
  le : w.heap.size ≤ g
theorem LowR.set {s : ByteArray} {g k : Nat} {w wr : World} (h : LowR s g k w wr) (hk : k < s.size) (v : Int) (hv : v = ((lowC s[k]).toNat : Int)) : LowR s g (k + 1) w (wr.setCell ⟨g, k, none⟩ (.int .u8 v)) where
  c j hj := by
    by_cases hjk : j = k
    · subst hjk
      rw [World.cell?_setCell_same' _ _ _ (by rw [h.c j hk]; rfl), if_pos (by omega), hv]
    · have hne : (⟨g, k, none⟩ : Addr) ≠ ⟨g, j, none⟩ := by intro e; exact hjk (by cases e; rfl)
      rw [World.cell?_setCell_other (h := hne), h.c j hj]
      by_cases hlt : j < k
      · rw [if_pos hlt, if_pos (by omega)]
      · rw [if_neg hlt, if_neg (by omega)]
  f j hj := by rw [World.frozen?_setCell]; exact h.f j hj
  hb := h.hb.setCell (p := ⟨g, k, none⟩) h.le _
  le := h.le
theorem LowR.skip {s : ByteArray} {g k : Nat} {w wr : World} (h : LowR s g k w wr) (hk : k < s.size) (hv : lowC s[k] = s[k]) : LowR s g (k + 1) w wr where
  c j hj := by
    rw [h.c j hj]
    by_cases hjk : j = k
    · subst hjk
      rw [if_neg (by omega), if_pos (by omega), hv]
    · by_cases hlt : j < k
      · rw [if_pos hlt, if_pos (by omega)]
      · rw [if_neg hlt, if_neg (by omega)]
  f := h.f
  hb := h.hb
  le := h.le
theorem LowR.done {s : ByteArray} {g : Nat} {w wr : World} (h : LowR s g s.size w wr) (cap : Nat) : (convert 26 9 (.slice (some ⟨g, 0, none⟩) s.size cap)).run Tryd.prog wr = .ok (.string ⟨(lowerL (dl s)).toArray⟩) wr := by
  have hl : (lowerL (dl s)).length = s.size := by rw [low_len, dl_len]
  have := run_convert_bytes_back (P := Tryd.prog) wr 26 9 5 ⟨g, 0, none⟩ cap (lowerL (dl s)) Tryd.underlying26 Tryd.underlying5 Tryd.underlying9 (fun j hj => by
    rw [hl] at hj
    rw [Addr.add_lit, Nat.zero_add, h.c j hj, if_pos hj]
    congr 4
    simp only [lowerL, List.getElem_map]
    congr 1)
  rw [hl] at this
  exact this
theorem LowR.start (s : ByteArray) (cap : Nat) (w : World) : LowR s w.heap.size 0 w (w.drew.alloc (.cells (bytesRow s cap) 5 ((bytesRow s cap).size, (bytesRow s cap).size + 1))) where
  c j hj := by
    rw [if_neg (by omega)]
    have hg : (w.drew.alloc (.cells (bytesRow s cap) 5 ((bytesRow s cap).size, (bytesRow s cap).size + 1))).heap[w.heap.size]? = some (.cells (bytesRow s cap) 5 ((bytesRow s cap).size, (bytesRow s cap).size + 1)) := heap_alloc_new w.drew _
    rw [cell_of_row _ _ _ _ _ _ hg]
    exact bytesRow_at s cap j hj
  f j hj := by
    have hg : (w.drew.alloc (.cells (bytesRow s cap) 5 ((bytesRow s cap).size, (bytesRow s cap).size + 1))).heap[w.heap.size]? = some (.cells (bytesRow s cap) 5 ((bytesRow s cap).size, (bytesRow s cap).size + 1)) := heap_alloc_new w.drew _
    have hz : j < (bytesRow s cap).size := (Array.getElem?_eq_some_iff.1 (bytesRow_at s cap j hj)).1
    unfold World.frozen?
    rw [hg]
    simp only [Bool.and_eq_false_iff, decide_eq_false_iff_not]
    exact .inl (by omega)
  hb := ((Below.refl _ _).drew).alloc (Nat.le_refl _) _
  le := Nat.le_refl _

/-- two texts and whether the byte was found -/
def CutEnds (c : UInt8) (l : Bs) (w : World) (e : Ending) (w' : World) : Prop :=
  ∃ (a b : ByteArray), e = .returned (.tuple #[.string a, .string b, .bool (l.contains c)]) ∧ dl a = befL c l ∧ dl b = aftL c l ∧ Below w.heap.size w w'

set_option maxRecDepth 100000 in
set_option maxHeartbeats 1000000 in
theorem cut41 (c : UInt8) (s : ByteArray) (hs : s.size ≤ 4096) (w : World) : Calls Tryd.prog 64 #[.string s, .string ⟨#[c]⟩] w (CutEnds c (dl s) w) := by
  obtain ⟨z, hz⟩ : ∃ z, Lib.indexByte (dl s) c = z := ⟨_, rfl⟩
  have HC := Lib.hid (fun W => sh_Index_one s c W)
  rw [hz] at HC
  have hz1 := Lib.indexByte_ge (dl s) c
  rw [hz] at hz1
  have hsep : (⟨#[c]⟩ : ByteArray).size = 1 := rfl
  generalize (⟨#[c]⟩ : ByteArray) = sep at *
  by_cases hneg : z = -1
  · subst hneg
    have HX := Lib.hid (cut_none (c := c) (l := dl s) (fun j _ => Lib.indexByte_none hz j))
    clear hz
    go_enter Tryd.func64, Tryd.ntmps64
    go_wp2_with fail
    refine (HC.out _).mono ?_
    rintro e w' ⟨rfl, rfl⟩
    go_wp2
    refine bodyPost_ret (v := .tuple #[.string s, .string ⟨#[]⟩, .bool false]) (by simp [results, Tryd.results64, go_sem]) rfl ?_
    exact ⟨s, ⟨#[]⟩, by rw [HX.out.2.2], HX.out.1.symm, HX.out.2.1.symm, Below.refl _ _⟩
  · obtain ⟨k, rfl⟩ := Int.eq_ofNat_of_zero_le (show 0 ≤ z by omega)
    have hsome := Lib.indexByte_some hz
    have hkl : k < s.size := by rw [← dl_len]; exact (List.getElem?_eq_some_iff.1 hsome.1).1
    have HX := Lib.hid (cut_at (c := c) (l := dl s) hsome.1 (fun j hj => hsome.2 j hj))
    clear hz hsome hz1 hneg
    have he1 : (0 : Int) ≤ (k : Int) := by omega
    have he2 : (k : Int) ≤ (s.size : Int) := by omega
    have he3 : (k : Int) + 1 ≤ (s.size : Int) := by omega
    have he4 : (0 : Int) ≤ (k : Int) + 1 := by omega
    have he5 : ((k : Int) + 1).toNat = k + 1 := by omega
    have he6 : k + 1 ≤ s.size := by omega
    have he7 : IntKind.i64.wrap ((k : Int) + 1) = (k : Int) + 1 := IntWalk.i64_in _ (by omega)
    go_enter Tryd.func64, Tryd.ntmps64
    go_wp2_with fail
    refine (HC.out _).mono ?_
    rintro e w' ⟨rfl, rfl⟩
    go_wp2_with fail
    go_quiet (fail)
    go_wp2
    refine bodyPost_ret (v := .tuple #[.string (s.extract 0 k), .string (s.extract (k + 1) s.size), .bool true]) (by simp [results, Tryd.results64, go_sem]) rfl ?_
    refine ⟨s.extract 0 k, s.extract (k + 1) s.size, by rw [HX.out.2.2], ?_, ?_, below_drewN (Below.refl _ _) _⟩
    · rw [dl_ext, HX.out.1, List.drop_zero]
    · rw [dl_ext, HX.out.2.1, List.take_of_length_le (by rw [dl_len]; exact Nat.le_refl _)]

set_option maxHeartbeats 1000000 in
theorem cut_any (c : UInt8) (s : ByteArray) (hs : s.size ≤ 4096) (w : World) : Calls Tryd.prog 55 #[.string s, .string ⟨#[c]⟩] w (CutEnds c (dl s) w) := by
  have HC := Lib.hid (fun W => cut41 c s hs W)
  generalize (⟨#[c]⟩ : ByteArray) = sep at *
  go_enter Tryd.func55, Tryd.ntmps55
  go_wp2_with fail
  refine (HC.out _).mono ?_
  rintro e w' ⟨a, b, rfl, ha, hb, hbw⟩
  have HAB := Lib.hid (And.intro ha hb)
  clear ha hb
  go_wp2
  refine bodyPost_ret (v := .tuple #[.string a, .string b, .bool ((dl s).contains c)]) (by simp [results, Tryd.results55, go_sem]) rfl ?_
  exact ⟨a, b, rfl, HAB.out.1, HAB.out.2, hbw⟩

set_option maxRecDepth 100000 in
set_option maxHeartbeats 4000000 in
theorem parse_any (s : ByteArray) (hs : s.size ≤ 4096) (w : World) : Calls Tryd.prog 58 #[.string s] w (ParseEnds (dl s) w) := by
  go_enter Tryd.func58, Tryd.ntmps58
  go_wp2_with fail
  have hg0 := Box.new w 59 #[.string ⟨#[]⟩, .string ⟨#[]⟩]
  have hb0 := ba1 w (.cells #[.string ⟨#[]⟩, .string ⟨#[]⟩] 59)
  obtain ⟨g, hg⟩ : ∃ g, w.heap.size = g := ⟨_, rfl⟩
  rw [hg] at hg0 ⊢
  have HG := Lib.hid hg
  clear hg
  generalize w.alloc (.cells #[.string ⟨#[]⟩, .string ⟨#[]⟩] 59) = W at *
  refine (cut_any 58 s hs _).mono ?_
  rintro e w1 ⟨n, v, rfl, hn, hv, hb1⟩
  have hns : n.size ≤ 4096 := by
    have h2 := (cut_len 58 (dl s)).1
    rw [← hn, dl_len, dl_len] at h2
    omega
  have hvs : v.size ≤ 4096 := by
    have h2 := (cut_len 58 (dl s)).2
    rw [← hv, dl_len, dl_len] at h2
    omega
  obtain ⟨b, hb⟩ : ∃ b, (dl s).contains 58 = b := ⟨_, rfl⟩
  rw [hb]
  have HB := Lib.hid hb
  clear hb
  go_wp2_with fail
  refine (trim_any v hvs _).mono ?_
  rintro e w2 ⟨t, rfl, ht, hb2⟩
  have hts : t.size ≤ 4096 := by
    have h2 := trim_len (dl v)
    rw [← ht, dl_len, dl_len] at h2
    omega
  have bg := (hg0.up hb1).up hb2
  have hbw := bon (bon hb0 hb1) hb2
  clear hg0 hb0 hb1 hb2
  have HNm := Lib.hid (fun W => name_any n hns W)
  have HVl := Lib.hid (fun W => value_any t hts W)
  have HN := Lib.hid hn
  have HT : Hid (dl t = trimL (aftL 58 (dl s))) := Lib.hid (by rw [ht, hv])
  rw [hn] at HNm
  rw [HT.out] at HVl
  clear hn hv ht
  obtain ⟨b2, hb⟩ : ∃ b, nameB (befL 58 (dl s)) = b := ⟨_, rfl⟩
  rw [hb] at HNm
  have HB2 := Lib.hid hb
  clear hb
  obtain ⟨b3, hb⟩ : ∃ b, valueB (trimL (aftL 58 (dl s))) = b := ⟨_, rfl⟩
  rw [hb] at HVl
  have HB3 := Lib.hid hb
  clear hb
  cases b with
  | false =>
    have HE : Hid (parse3 (dl s) = ([], [], 21)) := Lib.hid (parse_bad (fun h => by rw [HB.out] at h; cases h.1))
    obtain ⟨p0, p1, f0, f1⟩ := bg.two
    have HQ := Lib.hid (bg.set2 (.string ⟨#[]⟩) (.string ⟨#[]⟩)).two
    have HW := Lib.hid (below_set2 hbw (g := g) (by rw [HG.out]; exact Nat.le_refl _) (.string ⟨#[]⟩) (.string ⟨#[]⟩))
    go_wp2
    obtain ⟨q0, q1, _, _⟩ := HQ.out
    refine bodyPost_ret (v := .tuple #[.agg #[.string ⟨#[]⟩, .string ⟨#[]⟩], .int .i64 21]) (by simp [results, Tryd.results58, go_sem, q0, q1]) rfl ?_
    exact ⟨_, _, _, rfl, by rw [HE.out], by rw [HE.out], by rw [HE.out], HW.out⟩
  | true =>
    go_wp2_with fail
    refine (HNm.out _).mono ?_
    rintro e w3 ⟨rfl, rfl⟩
    cases b2 with
    | false =>
      have HE : Hid (parse3 (dl s) = ([], [], 21)) := Lib.hid (parse_bad (fun h => by rw [HB2.out] at h; cases h.2.1))
      obtain ⟨p0, p1, f0, f1⟩ := bg.two
      have HQ := Lib.hid (bg.set2 (.string ⟨#[]⟩) (.string ⟨#[]⟩)).two
      have HW := Lib.hid (below_set2 hbw (g := g) (by rw [HG.out]; exact Nat.le_refl _) (.string ⟨#[]⟩) (.string ⟨#[]⟩))
      go_wp2
      obtain ⟨q0, q1, _, _⟩ := HQ.out
      refine bodyPost_ret (v := .tuple #[.agg #[.string ⟨#[]⟩, .string ⟨#[]⟩], .int .i64 21]) (by simp [results, Tryd.results58, go_sem, q0, q1]) rfl ?_
      exact ⟨_, _, _, rfl, by rw [HE.out], by rw [HE.out], by rw [HE.out], HW.out⟩
    | true =>
      go_wp2_with fail
      refine (HVl.out _).mono ?_
      rintro e w4 ⟨rfl, hb4⟩
      have bg4 := bg.up hb4
      have hbw4 := bon hbw hb4
      clear bg hbw hb4
      obtain ⟨p0, p1, f0, f1⟩ := bg4.two
      cases b3 with
      | false =>
        have HE : Hid (parse3 (dl s) = ([], [], 21)) := Lib.hid (parse_bad (fun h => by rw [HB3.out] at h; cases h.2.2))
        have HQ := Lib.hid (bg4.set2 (.string ⟨#[]⟩) (.string ⟨#[]⟩)).two
        have HW := Lib.hid (below_set2 hbw4 (g := g) (by rw [HG.out]; exact Nat.le_refl _) (.string ⟨#[]⟩) (.string ⟨#[]⟩))
        go_wp2
        obtain ⟨q0, q1, _, _⟩ := HQ.out
        refine bodyPost_ret (v := .tuple #[.agg #[.string ⟨#[]⟩, .string ⟨#[]⟩], .int .i64 21]) (by simp [results, Tryd.results58, go_sem, q0, q1]) rfl ?_
        exact ⟨_, _, _, rfl, by rw [HE.out], by rw [HE.out], by rw [HE.out], HW.out⟩
      | true =>
        have HE : Hid (parse3 (dl s) = (befL 58 (dl s), trimL (aftL 58 (dl s)), 0)) := Lib.hid (if_pos ⟨HB.out, HB2.out, HB3.out⟩)
        have HQ := Lib.hid (bg4.set2 (.string n) (.string t)).two
        have HW := Lib.hid (below_set2 hbw4 (g := g) (by rw [HG.out]; exact Nat.le_refl _) (.string n) (.string t))
        go_wp2
        obtain ⟨q0, q1, _, _⟩ := HQ.out
        refine bodyPost_ret (v := .tuple #[.agg #[.string n, .string t], .int .i64 0]) (by simp [results, Tryd.results58, go_sem, q0, q1]) rfl ?_
        exact ⟨_, _, _, rfl, by rw [HE.out]; exact HN.out, by rw [HE.out]; exact HT.out, by rw [HE.out], HW.out⟩

end Go.Proofs.YtaoajilgilbmmaaDoor
