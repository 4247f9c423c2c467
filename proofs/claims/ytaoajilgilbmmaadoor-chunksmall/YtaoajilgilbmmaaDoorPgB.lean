/-
  The walks of what chunk does with a line: passData, endChunk, passTrailer, beginChunk.
-/
import Derived.Test.YtaoajilgilbmmaaDoorPgA
namespace Go.Proofs.YtaoajilgilbmmaaDoor
open Go.RowKit

section
variable {w : World} {g : Nat}
theorem set_a {s l : Int} {n : ByteArray} {m : Int} (h : Box w g 54 #[.int .i64 s, .int .i64 l, .string n, .int .i64 m]) (x : Int) : Box (w.setCell ⟨g, 0, none⟩ (.int .i64 x)) g 54 #[.int .i64 x, .int .i64 l, .string n, .int .i64 m] := by simpa using h.set 0 (.int .i64 x)
theorem set_b {s l : Int} {n : ByteArray} {m : Int} (h : Box w g 54 #[.int .i64 s, .int .i64 l, .string n, .int .i64 m]) (x : Int) : Box (w.setCell ⟨g, 1, none⟩ (.int .i64 x)) g 54 #[.int .i64 s, .int .i64 x, .string n, .int .i64 m] := by simpa using h.set 1 (.int .i64 x)
theorem set_c {s l : Int} {n : ByteArray} {m : Int} (h : Box w g 54 #[.int .i64 s, .int .i64 l, .string n, .int .i64 m]) (x : ByteArray) : Box (w.setCell ⟨g, 2, none⟩ (.string x)) g 54 #[.int .i64 s, .int .i64 l, .string x, .int .i64 m] := by simpa using h.set 2 (.string x)
theorem set_d {s l : Int} {n : ByteArray} {m : Int} (h : Box w g 54 #[.int .i64 s, .int .i64 l, .string n, .int .i64 m]) (x : Int) : Box (w.setCell ⟨g, 3, none⟩ (.int .i64 x)) g 54 #[.int .i64 s, .int .i64 l, .string n, .int .i64 x] := by simpa using h.set 3 (.int .i64 x)
end

/-- one byte of the data is counted -/
def PassEnds (g : Nat) (s l : Int) (n : ByteArray) (m : Int) (w : World) (e : Ending) (w' : World) : Prop :=
  e = .returned (.tuple #[]) ∧ Box w' g 54 #[.int .i64 s, .int .i64 l, .string n, .int .i64 m] ∧ But g w w'
set_option maxHeartbeats 1000000 in
theorem pass_any (g : Nat) (l : Int) (n : ByteArray) (m : Int) (w : World) (h : Box w g 54 #[.int .i64 1, .int .i64 l, .string n, .int .i64 m]) (hl : -9000 ≤ l ∧ l ≤ 9000) (hm : -9000 ≤ m ∧ m ≤ 9000) : Calls Tryd.prog 24 #[.pointer (some ⟨g, 0, none⟩)] w (PassEnds g (if l - 1 = 0 then 2 else 1) (l - 1) n (m + 1) w) := by
  have tl : IntKind.i64.wrap (l - 1) = l - 1 := IntWalk.i64_in _ (by omega)
  have tm : IntKind.i64.wrap (m + 1) = m + 1 := IntWalk.i64_in _ (by omega)
  by_cases z : l - 1 = 0
  · obtain rfl : l = 1 := by omega
    have HQ := Lib.hid (And.intro (set_a (set_d (set_b h 0) (m + 1)) 2) ((((But.refl g w).set 1 (.int .i64 0)).set 3 (.int .i64 (m + 1))).set 0 (.int .i64 2)))
    obtain ⟨c0, c1, c2, c3⟩ := h.four
    obtain ⟨d0, d1, d2, d3⟩ := h.fourf
    clear h
    go_enter Tryd.func24, Tryd.ntmps24
    go_wp2
    refine bodyPost_ret (v := .tuple #[]) (by simp [results, Tryd.results24, go_sem]) rfl ?_
    exact ⟨rfl, HQ.out.1, HQ.out.2⟩
  · have zb : (l - 1 == 0) = false := beq_eq_false_iff_ne.2 z
    rw [if_neg z]
    have HQ := Lib.hid (And.intro (set_d (set_b h (l - 1)) (m + 1)) (((But.refl g w).set 1 (.int .i64 (l - 1))).set 3 (.int .i64 (m + 1))))
    obtain ⟨c0, c1, c2, c3⟩ := h.four
    obtain ⟨d0, d1, d2, d3⟩ := h.fourf
    clear h
    go_enter Tryd.func24, Tryd.ntmps24
    go_wp2
    refine bodyPost_ret (v := .tuple #[]) (by simp [results, Tryd.results24, go_sem]) rfl ?_
    exact ⟨rfl, HQ.out.1, HQ.out.2⟩

set_option maxHeartbeats 1000000 in
theorem endc_any (g : Nat) (l m : Int) (x : ByteArray) (w : World) (h : Box w g 54 #[.int .i64 2, .int .i64 l, .string ⟨#[]⟩, .int .i64 m]) : Calls Tryd.prog 43 #[.pointer (some ⟨g, 0, none⟩), .string x] w (ActEnds g (lineC ⟨2, l, [], m⟩ (dl x)) w) := by
  have hemp := isEmp (s := x)
  by_cases z : x.size = 0
  · obtain rfl := emp_of z
    have HQ := Lib.hid (And.intro (set_a h 0) ((But.refl g w).set 0 (.int .i64 0)))
    obtain ⟨c0, c1, c2, c3⟩ := h.four
    obtain ⟨d0, d1, d2, d3⟩ := h.fourf
    clear h hemp
    go_enter Tryd.func43, Tryd.ntmps43
    go_wp2
    go_ret
    exact ⟨⟨#[]⟩, rfl, rfl, HQ.out.1, HQ.out.2⟩
  · rw [decide_eq_false z] at hemp
    have HV : Hid (lineC ⟨2, l, [], m⟩ (dl x) = (⟨2, l, [], m⟩, 23)) := Lib.hid (by
      unfold lineC
      rw [if_neg (show ¬ (2 : Int) = 0 by decide), if_pos rfl, if_neg (fun e => z (by rw [← dl_len, e]; rfl))])
    have HQ := Lib.hid h
    clear h
    go_enter Tryd.func43, Tryd.ntmps43
    go_wp2
    go_ret
    rw [HV.out]
    exact ⟨⟨#[]⟩, rfl, rfl, HQ.out, But.refl g w⟩

set_option maxHeartbeats 1000000 in
theorem trail_any (g : Nat) (l m : Int) (x : ByteArray) (hx : x.size ≤ 4096) (w : World) (h : Box w g 54 #[.int .i64 3, .int .i64 l, .string ⟨#[]⟩, .int .i64 m]) : Calls Tryd.prog 44 #[.pointer (some ⟨g, 0, none⟩), .string x] w (ActEnds g (lineC ⟨3, l, [], m⟩ (dl x)) w) := by
  have hemp := isEmp (s := x)
  by_cases z : x.size = 0
  · obtain rfl := emp_of z
    have HQ := Lib.hid (And.intro (set_a h 4) ((But.refl g w).set 0 (.int .i64 4)))
    obtain ⟨c0, c1, c2, c3⟩ := h.four
    obtain ⟨d0, d1, d2, d3⟩ := h.fourf
    clear h hemp
    go_enter Tryd.func44, Tryd.ntmps44
    go_wp2
    go_ret
    exact ⟨⟨#[]⟩, rfl, rfl, HQ.out.1, HQ.out.2⟩
  · rw [decide_eq_false z] at hemp
    have HV : Hid (lineC ⟨3, l, [], m⟩ (dl x) = if (parse3 (dl x)).2.2 = 0 then (⟨3, l, [], m⟩, 0) else (⟨3, l, [], m⟩, 23)) := Lib.hid (by
      unfold lineC
      rw [if_neg (show ¬ (3 : Int) = 0 by decide), if_neg (show ¬ (3 : Int) = 2 by decide), if_neg (fun e => z (by rw [← dl_len, e]; rfl))])
    have HP := Lib.hid (fun W => parse_any x hx W)
    have HQ := Lib.hid h
    clear h
    go_enter Tryd.func44, Tryd.ntmps44
    go_wp2_with fail
    refine (HP.out _).mono ?_
    rintro e w1 ⟨f, v, c, rfl, h1, h2, rfl, hb1⟩
    have HB := Lib.hid (bon hb1 (ba1 w1 (.cells #[.string f, .string v] 59)))
    clear h1 h2 hb1
    by_cases e0 : (parse3 (dl x)).2.2 = 0
    · have e1 : ((parse3 (dl x)).2.2 != 0) = false := by rw [e0]; rfl
      go_wp2
      go_ret
      rw [HV.out, if_pos e0]
      exact ⟨⟨#[]⟩, rfl, rfl, HQ.out.up HB.out, But.of HB.out⟩
    · have e1 : ((parse3 (dl x)).2.2 != 0) = true := bne_iff_ne.2 e0
      go_wp2
      go_ret
      rw [HV.out, if_neg e0]
      exact ⟨⟨#[]⟩, rfl, rfl, HQ.out.up HB.out, But.of HB.out⟩

set_option maxRecDepth 100000 in
set_option maxHeartbeats 2000000 in
theorem begin_any (g : Nat) (l m : Int) (x : ByteArray) (hx : x.size ≤ 4096) (hm : -9000 ≤ m ∧ m ≤ 9000) (w : World) (h : Box w g 54 #[.int .i64 0, .int .i64 l, .string ⟨#[]⟩, .int .i64 m]) : Calls Tryd.prog 42 #[.pointer (some ⟨g, 0, none⟩), .string x] w (ActEnds g (lineC ⟨0, l, [], m⟩ (dl x)) w) := by
  have hp := size_pos (dl x)
  have HV : Hid (lineC ⟨0, l, [], m⟩ (dl x) = if (sizeN (dl x)).2 ≠ 0 then (⟨0, l, [], m⟩, (sizeN (dl x)).2) else if 4000 - m < (sizeN (dl x)).1 then (⟨0, l, [], m⟩, 2) else (⟨if (sizeN (dl x)).1 = 0 then 3 else 1, (sizeN (dl x)).1, [], m⟩, 0)) := Lib.hid rfl
  obtain ⟨q, hq⟩ : ∃ q, parseN (trimL (befL 59 (dl x))) 16 = q := ⟨_, rfl⟩
  have hsz : sizeN (dl x) = if q.2 = 1 then (0, 23) else if q.2 ≠ 0 then (0, 2) else (q.1, 0) := by unfold sizeN; rw [hq]
  rw [hsz] at hp HV
  have HQ := Lib.hid hq
  have HBx := Lib.hid h
  clear hq hsz
  have HC := Lib.hid (fun W => cut_any 59 x hx W)
  go_enter Tryd.func42, Tryd.ntmps42
  go_wp2_with fail
  refine (HC.out _).mono ?_
  rintro e w1 ⟨a, b, rfl, ha, hb, hb1⟩
  have has : a.size ≤ 4096 := by
    have h2 := (cut_len 59 (dl x)).1
    rw [← ha, dl_len, dl_len] at h2
    omega
  have HA := Lib.hid ha
  clear ha hb HC
  obtain ⟨bf, hbf⟩ : ∃ b, (dl x).contains 59 = b := ⟨_, rfl⟩
  rw [hbf]
  clear hbf
  go_wp2_with fail
  refine (trim_any a has _).mono ?_
  rintro e w2 ⟨t, rfl, ht, hb2⟩
  have hts : t.size ≤ maxLen := by
    have h2 := trim_len (dl a)
    rw [← ht, dl_len, dl_len] at h2
    unfold maxLen
    omega
  have HP := Lib.hid (fun W => Nm.parse_any t 16 W hts)
  have hdt : t.data.toList = trimL (befL 59 (dl x)) := by
    have e : dl t = trimL (befL 59 (dl x)) := by rw [ht, HA.out]
    exact e
  rw [hdt, HQ.out] at HP
  have HB := Lib.hid (bon hb1 hb2)
  clear ht hdt hb1 hb2 hts HA HQ
  go_wp2_with fail
  refine (HP.out _).mono ?_
  rintro e w3 ⟨rfl, hw⟩
  have HB3 : Hid (Below w.heap.size w w3) := by first | (subst hw; exact HB) | exact Lib.hid (bon HB.out hw)
  clear hw HB HP
  have bx := HBx.out.up HB3.out
  obtain ⟨v, er⟩ := q
  simp only at HV hp ⊢
  have t4 : IntKind.i64.wrap (4000 - m) = 4000 - m := IntWalk.i64_in _ (by omega)
  obtain ⟨c0, c1, c2, c3⟩ := bx.four
  obtain ⟨d0, d1, d2, d3⟩ := bx.fourf
  by_cases e1 : er = 1
  · subst e1
    have HV2 : Hid (lineC ⟨0, l, [], m⟩ (dl x) = (⟨0, l, [], m⟩, 23)) := Lib.hid (by rw [HV.out]; simp)
    have HX := Lib.hid bx
    clear bx HV hp
    go_wp2
    go_ret
    rw [HV2.out]
    exact ⟨⟨#[]⟩, rfl, rfl, HX.out, But.of HB3.out⟩
  · have e1b : (er == 1) = false := beq_eq_false_iff_ne.2 e1
    rw [if_neg e1] at HV hp
    by_cases e0 : er = 0
    · subst e0
      rw [if_neg (by simp)] at HV hp
      simp only at HV hp
      have HV1 : Hid (lineC ⟨0, l, [], m⟩ (dl x) = if 4000 - m < v then (⟨0, l, [], m⟩, 2) else (⟨if v = 0 then 3 else 1, v, [], m⟩, 0)) := Lib.hid (by have e := HV.out; simpa using e)
      clear HV e1 e1b
      by_cases hbig : 4000 - m < v
      · have HV2 : Hid (lineC ⟨0, l, [], m⟩ (dl x) = (⟨0, l, [], m⟩, 2)) := Lib.hid (by rw [HV1.out, if_pos hbig])
        have HX := Lib.hid bx
        clear bx HV1
        go_wp2
        go_ret
        rw [HV2.out]
        exact ⟨⟨#[]⟩, rfl, rfl, HX.out, But.of HB3.out⟩
      · by_cases z : v = 0
        · subst z
          have HV2 : Hid (lineC ⟨0, l, [], m⟩ (dl x) = (⟨3, 0, [], m⟩, 0)) := Lib.hid (by rw [HV1.out, if_neg hbig]; rfl)
          have HX := Lib.hid (And.intro (set_a (set_a (set_b bx 0) 1) 3) ((((But.of HB3.out : But g w w3).set 1 (.int .i64 0)).set 0 (.int .i64 1)).set 0 (.int .i64 3)))
          have HX2 := Lib.hid (And.intro (set_a (set_b bx 0) 3) (((But.of HB3.out : But g w w3).set 1 (.int .i64 0)).set 0 (.int .i64 3)))
          clear bx HV1
          go_wp2
          go_ret
          rw [HV2.out]
          first | exact ⟨⟨#[]⟩, rfl, rfl, HX.out.1, HX.out.2⟩ | exact ⟨⟨#[]⟩, rfl, rfl, HX2.out.1, HX2.out.2⟩
        · have zb : (v == 0) = false := beq_eq_false_iff_ne.2 z
          have HV2 : Hid (lineC ⟨0, l, [], m⟩ (dl x) = (⟨1, v, [], m⟩, 0)) := Lib.hid (by rw [HV1.out, if_neg hbig, if_neg z])
          have HX := Lib.hid (And.intro (set_a (set_b bx v) 1) (((But.of HB3.out : But g w w3).set 1 (.int .i64 v)).set 0 (.int .i64 1)))
          clear bx HV1 z
          go_wp2
          go_ret
          rw [HV2.out]
          exact ⟨⟨#[]⟩, rfl, rfl, HX.out.1, HX.out.2⟩
    · have e0b : (er != 0) = true := bne_iff_ne.2 e0
      rw [if_pos e0] at HV hp
      simp only at HV hp
      have HV2 : Hid (lineC ⟨0, l, [], m⟩ (dl x) = (⟨0, l, [], m⟩, 2)) := Lib.hid (by have e := HV.out; simpa using e)
      have HX := Lib.hid bx
      clear bx HV e0 e1
      go_wp2
      go_ret
      rw [HV2.out]
      exact ⟨⟨#[]⟩, rfl, rfl, HX.out, But.of HB3.out⟩
end Go.Proofs.YtaoajilgilbmmaaDoor
