/-
  The walk of the law FrameLengths.
-/
import Derived.Test.YtginijeajenghaaDoorFrG
import Derived.Test.YtginijeajenghaaDoorFrH
import Derived.Test.YtginijeajenghaaDoorLawC
namespace Go.Proofs.YtginijeajenghaaDoor
open Go.RowKit

theorem row_new (w : World) (fs : List Fd) (n B : Nat) (hn : fs.length = n) (hm : n ≤ 4096) (hB : B ≤ w.heap.size) : Row (w.alloc (.cells (fvs fs).toArray 32)) B 32 2 ⟨some ⟨w.heap.size, 0, none⟩, n, n⟩ (fvs fs) :=
  ⟨by rw [fvs_len, hn], .inr ⟨w.heap.size, n, (fvs fs).toArray, rfl, hB, heap_alloc_new w _, Nat.le_refl _, by unfold maxLen; omega, by simp [fvs_len, hn], by
    rw [List.take_of_length_le (by simp [fvs_len, hn])]⟩⟩
theorem Fs.take1 {w : World} {A : Option Addr} {c : Nat} {x y : Fd} (h : Fs w ⟨A, 2, c⟩ [x, y]) : Fs w ⟨A, 1, c⟩ [x] where
  len := rfl
  rd _ := by
    obtain ⟨b, o, hA, hl, hc⟩ := h.rd (by simp [fvs])
    refine ⟨b, o, hA, hl, fun j u hu => hc j u ?_⟩
    match j, hu with
    | 0, hu => exact hu
    | 1, hu => exact hu
  cap := h.cap
  le := ⟨by have := h.le.1; simp only at this ⊢; omega, h.le.2⟩
/-- while the digits are told: what is left, and how many were told -/
def DigR (K j : Nat) : Prop := j ≤ 5 ∧ (j = 0 → K ≤ 65535) ∧ (j = 1 → K ≤ 6553) ∧ (j = 2 → K ≤ 655) ∧ (j = 3 → K ≤ 65) ∧ (j = 4 → K ≤ 6) ∧ (j = 5 → K = 0)
theorem DigR.next {K j : Nat} (h : DigR K j) (hg : 0 < K ∨ j = 0) : DigR (K / 10) (j + 1) := by
  unfold DigR at *
  omega
theorem few_fs {fs : List Fd} (h : ∀ f ∈ fs, f.1.size ≤ 61 ∧ f.2.size ≤ 61) : Few fs := fun f hf => by have := h f hf; omega

set_option maxRecDepth 100000 in
set_option maxHeartbeats 4000000 in
theorem frameLengths_any (s : ByteArray) (N : Nat) (two : Bool) (cd : ByteArray) (mn : Bool) (w : World) (hs : s.size ≤ 4611686018427387904) (hcd : cd.size ≤ 4611686018427387904) (hN : N < 65536) : Calls Tryd.prog 5 #[.string s, .int .u16 (N : Int), .bool two, .string cd, .bool mn] w (BoolEnds true w) := by
  obtain ⟨i32, hi, hz0, hz1, hz2⟩ := info_parts info32
  by_cases hbig : 60 < s.size ∨ 60 < cd.size
  · have hcase : (60 < s.size) ∨ (¬ 60 < s.size ∧ 60 < cd.size) := by omega
    clear hbig
    rcases hcase with h1 | ⟨h1, h2⟩
    all_goals
      go_enter Tryd.func5, Tryd.ntmps5
      go_wp2_with fail
      refine (awake_any _).mono ?_
      rintro e w4 ⟨rfl, hb4⟩
      go_wp2
      go_ret
      exact ⟨by rfl, hb4⟩
  · have h1 : ¬ 60 < s.size := by omega
    have h2 : ¬ 60 < cd.size := by omega
    clear hbig hs hcd
    have tw : IntKind.i64.wrap (N : Int) = (N : Int) := IntWalk.i64_in _ (by omega)
    go_enter Tryd.func5, Tryd.ntmps5
    go_wp2_with fail
    clear tw
    go_loopw [12, 11] (fun i o wr => ∃ (K : Nat) (T : ByteArray), i = .int .i64 (K : Int) ∧ o = .string T ∧ K ≤ 65535 ∧ T.size ≤ 5 ∧ Hid (DigR K T.size) ∧ Hid (Below w.heap.size w wr)) (fun i o _ => (intOf i).toNat + (if szOf o = 0 then 1 else 0))
    case atStart => exact ⟨N, ⟨#[]⟩, by go_num, rfl, by omega, by decide, Lib.hid (by have h0 : (⟨#[]⟩ : ByteArray).size = 0 := rfl; unfold DigR; rw [h0]; omega), Lib.hid (Below.refl _ _)⟩
    case round =>
      obtain ⟨K, T, rfl, rfl, hK, hT5, HD, HB⟩ := hrel
      have hemp := isEmp (s := T)
      by_cases hgo : 0 < K ∨ T.size = 0
      · have HDn := Lib.hid (HD.out.next hgo)
        have hT4 : T.size ≤ 4 := by have := HDn.out.1; omega
        obtain ⟨r, hr⟩ : ∃ r, K % 10 = r := ⟨_, rfl⟩
        obtain ⟨q, hq⟩ : ∃ q, K / 10 = q := ⟨_, rfl⟩
        have hr10 : r < 10 := by omega
        have hqK : q ≤ 6553 := by omega
        have hqlt : 0 < K → q < K := fun h => by omega
        have t2 : (K : Int).tmod 10 = (r : Int) := by rw [Int.tmod_eq_emod_of_nonneg (by omega), ← hr]; simp
        have t3 : (K : Int) % 10 = (r : Int) := by rw [← hr]; simp
        have t4 : (K : Int).tdiv 10 = (q : Int) := by rw [Int.tdiv_eq_ediv_of_nonneg (by omega), ← hq]; simp
        have t5 : (K : Int) / 10 = (q : Int) := by rw [← hq]; simp
        rw [hq] at HDn
        obtain ⟨x, hx⟩ : ∃ x : UInt8, x.toNat = 48 + r := ⟨(48 + r).toUInt8, by simp; omega⟩
        have hcv := conv1 wr x
        have hxi : (x.toNat : Int) = 48 + (r : Int) := by omega
        rw [hxi] at hcv
        have hsz : ((⟨#[x]⟩ : ByteArray) ++ T).size = T.size + 1 := by rw [ByteArray.size_append, show (⟨#[x]⟩ : ByteArray).size = 1 from rfl]; omega
        have hX1 : (⟨#[x]⟩ : ByteArray).size = 1 := rfl
        generalize (⟨#[x]⟩ : ByteArray) = X at *
        have hdec : (K : Int) = 0 ∨ 0 < (K : Int) := by omega
        clear hx hxi
        rcases hdec with hk0 | hk0
        · obtain rfl : K = 0 := by omega
          have hT0 : T.size = 0 := by omega
          rw [decide_eq_true hT0] at hemp
          obtain rfl : r = 0 := by omega
          obtain rfl : q = 0 := by omega
          clear hr hq
          have hcv0 : (convert 22 9 (.slice (some ⟨wr.heap.size, 0, none⟩) 1 1)).run Tryd.prog (wr.alloc (.cells #[.int .u8 48] 5)) = .ok (.string X) (wr.alloc (.cells #[.int .u8 48] 5)) := hcv
          clear hgo hqlt hk0 hcv
          go_wp2
          go_roundw
          case rel => exact ⟨0, X ++ T, by go_num, rfl, by omega, by omega, by rw [hsz]; exact HDn, Lib.hid (bon HB.out (ba1 _ _))⟩
          case measure => simp [intOf, szOf, hsz, hT0]
        · have hqlt2 := hqlt (by omega)
          clear hgo hqlt hr hq
          go_wp2
          go_roundw
          case rel => exact ⟨q, X ++ T, by go_num, rfl, by omega, by omega, by rw [hsz]; exact HDn, Lib.hid (bon HB.out (ba1 _ _))⟩
          case measure => simp [intOf, szOf, hsz]; omega
      · obtain rfl : K = 0 := by omega
        have hT0 : ¬ T.size = 0 := by omega
        rw [decide_eq_false hT0] at hemp
        clear hgo HD
        have hs0 : ((⟨#[48]⟩ : ByteArray) ++ T).size = T.size + 1 := by rw [ByteArray.size_append, show (⟨#[48]⟩ : ByteArray).size = 1 from rfl]; omega
        have hZ1 : (⟨#[48]⟩ : ByteArray).size = 1 := rfl
        go_wp2_with fail
        clear hemp
        obtain ⟨Z, hZ⟩ : ∃ Z, (⟨#[48]⟩ : ByteArray) ++ T = Z := ⟨_, rfl⟩
        rw [hZ] at hs0 ⊢
        clear hZ hZ1
        have hvs : ∀ x ∈ [s, T, Z], x.size ≤ 60 := by
          intro x hx
          simp only [List.mem_cons, List.not_mem_nil, or_false] at hx
          rcases hx with rfl | rfl | rfl <;> omega
        have HVS := Lib.hid hvs
        clear hvs
        have hd := ba1 wr (.cells #[.string s, .string T, .string Z] 9)
        have HSl : Hid (Box (wr.alloc (.cells #[.string s, .string T, .string Z] 9)) wr.heap.size 9 (svs [s, T, Z]).toArray) := Lib.hid (Box.new wr 9 #[.string s, .string T, .string Z])
        have HB3 := Lib.hid (bon HB.out hd)
        obtain ⟨gl, hg⟩ : ∃ g, wr.heap.size = g := ⟨_, rfl⟩
        rw [hg] at HSl ⊢
        clear hg hd HB
        generalize wr.alloc (.cells #[.string s, .string T, .string Z] 9) = W3 at *
        have h00 : ((0 : Nat) : Int) = 0 := rfl
        have h1i : ¬ (60 : Int) < (s.size : Int) := by omega
        have h2i : ¬ (60 : Int) < (cd.size : Int) := by omega
        rw [h00]
        simp only [decide_eq_false h1i, decide_eq_false h2i, Bool.or_false]
        go_loopw [50] (fun i wq => ∃ k : Nat, k ≤ 3 ∧ i = .int .i64 (k : Int) ∧ Hid (Below W3.heap.size W3 wq)) (fun i _ => 3 - (intOf i).toNat)
        case atStart => exact ⟨0, by omega, rfl, Lib.hid (Below.refl _ _)⟩
        case round =>
          obtain ⟨k, hk, rfl, HBq⟩ := hrel
          by_cases hlt : k < 3
          · have hki : (k : Int) < 3 := by omega
            have hk0 : (0 : Int) ≤ (k : Int) := by omega
            obtain ⟨x, hx, cx⟩ := lit_cell (xs := [s, T, Z]) (HSl.out.up HBq.out) (p := k) hlt
            have hxs := HVS.out x hx
            clear hx
            go_wp2_with fail
            have hd4 := ba1 wr (.cells #[.string ⟨#[67, 111, 110, 116, 101, 110, 116, 45, 76, 101, 110, 103, 116, 104]⟩, .string x] 32)
            have row4 : Row (wr.alloc (.cells #[.string ⟨#[67, 111, 110, 116, 101, 110, 116, 45, 76, 101, 110, 103, 116, 104]⟩, .string x] 32)) wr.heap.size 32 2 ⟨some ⟨wr.heap.size, 0, none⟩, 1, 1⟩ (fvs [(⟨#[67, 111, 110, 116, 101, 110, 116, 45, 76, 101, 110, 103, 116, 104]⟩, x)]) := row_new wr [(⟨#[67, 111, 110, 116, 101, 110, 116, 45, 76, 101, 110, 103, 116, 104]⟩, x)] 1 wr.heap.size rfl (by decide) (Nat.le_refl _)
            refine (lhead_any _ 1 1 _).mono ?_
            rintro e w5 ⟨rfl, hc5⟩
            go_upto_region 12 with fail
            have hd5 := bon (bon hd4 hc5) (ba1 w5 (.cells #[.string ⟨#[80, 79, 83, 84]⟩, .string ⟨#[47]⟩, .int .i64 0, .string ⟨#[]⟩, .int .i64 1, .slice (some ⟨wr.heap.size, 0, none⟩) 1 1] 25))
            have row6 := (row4.up hc5).up (ba1 w5 (.cells #[.string ⟨#[80, 79, 83, 84]⟩, .string ⟨#[47]⟩, .int .i64 0, .string ⟨#[]⟩, .int .i64 1, .slice (some ⟨wr.heap.size, 0, none⟩) 1 1] 25))
            have HB6 := Lib.hid (bon HBq.out hd5)
            have HB0 := Lib.hid HBq.out.size
            have hz6 := hd5.size
            have bh6 := Box.new w5 25 #[.string ⟨#[80, 79, 83, 84]⟩, .string ⟨#[47]⟩, .int .i64 0, .string ⟨#[]⟩, .int .i64 1, .slice (some ⟨wr.heap.size, 0, none⟩) 1 1]
            have hgg : wr.heap.size < w5.heap.size := by
              have a1 := hc5.size
              simp at a1
              omega
            obtain ⟨ga, hga⟩ : ∃ g, wr.heap.size = g := ⟨_, rfl⟩
            obtain ⟨gh, hgh⟩ : ∃ g, w5.heap.size = g := ⟨_, rfl⟩
            rw [hga] at row6 bh6 hgg hz6 HB0 HB6 ⊢
            rw [hgh] at bh6 hgg ⊢
            clear hd4 hd5 hc5 row4 HBq cx hgh
            generalize w5.alloc (.cells #[.string ⟨#[80, 79, 83, 84]⟩, .string ⟨#[47]⟩, .int .i64 0, .string ⟨#[]⟩, .int .i64 1, .slice (some ⟨ga, 0, none⟩) 1 1] 25) = W6 at *
            cases two with
            | true =>
              have hd7 := ba1 W6 (.cells #[.string ⟨#[67, 79, 78, 84, 69, 78, 84, 45, 76, 69, 78, 71, 84, 72]⟩, .string T] 32)
              have row7 := row6.up hd7
              have bh7 := bh6.up hd7
              have HB7 := Lib.hid (bon HB6.out hd7)
              have HSrc := Lib.hid (src_one W6 32 (fvs [(⟨#[67, 79, 78, 84, 69, 78, 84, 45, 76, 69, 78, 71, 84, 72]⟩, T)]) 1 2 rfl)
              have hBw : ga ≤ (W6.alloc (.cells #[.string ⟨#[67, 79, 78, 84, 69, 78, 84, 45, 76, 69, 78, 71, 84, 72]⟩, .string T] 32)).heap.size := Nat.le_trans hz6 hd7.size
              have c5 := bh6.c 5 (v := .slice (some ⟨ga, 0, none⟩) 1 1) rfl
              go_wp2_with (at_builtin; refine wpList_app _ rfl _ _ 23 rfl ga 32 i32 _ 2 32 (by decide) Tryd.underlying23 hi hz0 hz1 hz2 rfl (.slice (some ⟨ga, 0, none⟩) 1 1) 1 (fvs [(⟨#[67, 111, 110, 116, 101, 110, 116, 45, 76, 101, 110, 103, 116, 104]⟩, x)]) rfl row7 (some ⟨W6.heap.size, 0, none⟩) 1 1 (fvs [(⟨#[67, 79, 78, 84, 69, 78, 84, 45, 76, 69, 78, 71, 84, 72]⟩, T)]) rfl HSrc.out (fvs_one _) ?_ ?_ hBw 2 rfl ?_; (unfold maxLen; omega); omega; intro A' c' w8 h81 h82 h83; refine Hid.out ?_)
              have bh8 : Box w8 gh 25 #[.string ⟨#[80, 79, 83, 84]⟩, .string ⟨#[47]⟩, .int .i64 0, .string ⟨#[]⟩, .int .i64 1, .slice (some ⟨ga, 0, none⟩) 1 1] := (grown_other row7 h82 bh7 (by decide)).trans bh7
              have HB8 := Lib.hid (grown_base row7 h82 HB7.out HB0.out HB7.out.size)
              have F8 : Fs w8 ⟨A', 2, c'⟩ [(⟨#[67, 111, 110, 116, 101, 110, 116, 45, 76, 101, 110, 103, 116, 104]⟩, x), (⟨#[67, 79, 78, 84, 69, 78, 84, 45, 76, 69, 78, 71, 84, 72]⟩, T)] := Row.fs (B := ga) (s := ⟨A', 2, c'⟩) h81
              have hA8 : ∀ ad, A' = some ad → ad.block ≠ gh := by
                intro ad hA
                rcases h81.2 with ⟨e1, _⟩ | ⟨g', cap, cur, e1, hb', hgc, _⟩
                · simp only [Value.slice.injEq] at e1
                  rw [e1.1] at hA
                  cases hA
                · simp only [Value.slice.injEq] at e1
                  rw [e1.1] at hA
                  obtain rfl := Option.some.inj hA
                  exact box_ne bh8 hgc (by decide)
              have bh9 := bh8.set5 (.slice A' 2 c')
              have F9 := F8.set (p := ⟨gh, 5, none⟩) hA8 (.slice A' 2 c')
              have HB9 := Lib.hid (HB8.out.setCell (p := ⟨gh, 5, none⟩) (by have := HB0.out; simp only; omega) (.slice A' 2 c'))
              have k5 := bh8.c 5 (v := .slice (some ⟨ga, 0, none⟩) 1 1) rfl
              have f5 := bh8.f 5
              refine Lib.hid ?_
              clear h81 h82 h83 row7 row6 bh7 bh6 HB7 HB6 HSrc hBw c5 hd7 bh8 HB8 F8 hA8
              go_upto_region 14 with fail
              clear k5 f5
              generalize w8.setCell ⟨gh, 5, none⟩ (.slice A' 2 c') = W9 at *
              have hfew : Few [(⟨#[67, 111, 110, 116, 101, 110, 116, 45, 76, 101, 110, 103, 116, 104]⟩, x), (⟨#[67, 79, 78, 84, 69, 78, 84, 45, 76, 69, 78, 71, 84, 72]⟩, T)] := by
                intro f hf
                simp only [List.mem_cons, List.not_mem_nil, or_false] at hf
                rcases hf with rfl | rfl
                · exact ⟨by simp only; decide, by simp only; omega⟩
                · exact ⟨by simp only; decide, by simp only; omega⟩
              obtain ⟨c0, c1, c2, c3, c4, c5⟩ := bh9.six
              go_wp2_with fail
              refine (same_any ⟨#[80, 79, 83, 84]⟩ ⟨#[47]⟩ 0 ⟨#[]⟩ 1 A' 2 c' [(⟨#[67, 111, 110, 116, 101, 110, 116, 45, 76, 101, 110, 103, 116, 104]⟩, x), (⟨#[67, 79, 78, 84, 69, 78, 84, 45, 76, 69, 78, 71, 84, 72]⟩, T)] W9 (by decide) (by decide) (by decide) F9 (by decide) hfew ⟨#[71, 69, 84]⟩).mono ?_
              rintro e w10 ⟨rfl, hb10⟩
              have bh10 := bh9.up hb10
              have F10 := F9.up hb10
              have HB10 := Lib.hid (bon HB9.out hb10)
              clear c0 c1 c2 c3 c4 c5 bh9 F9 HB9 hb10
              obtain ⟨c0, c1, c2, c3, c4, c5⟩ := bh10.six
              go_wp2_with fail
              refine (same_any ⟨#[]⟩ ⟨#[]⟩ 200 ⟨#[]⟩ 0 A' 2 c' [(⟨#[67, 111, 110, 116, 101, 110, 116, 45, 76, 101, 110, 103, 116, 104]⟩, x), (⟨#[67, 79, 78, 84, 69, 78, 84, 45, 76, 69, 78, 71, 84, 72]⟩, T)] w10 (by decide) (by decide) (by decide) F10 (by decide) hfew ⟨#[71, 69, 84]⟩).mono ?_
              rintro e w11 ⟨rfl, hb11⟩
              have HB11 := Lib.hid (bon HB10.out hb11)
              clear c0 c1 c2 c3 c4 c5 bh10 F10 HB10 hb11
              go_wp2
              go_roundw
              case rel => exact ⟨k + 1, by omega, by go_num, HB11⟩
              case measure => simp [intOf]; omega
            | false =>
              have bh9 := bh6
              have HB9 := HB6
              have F9 : Fs W6 ⟨some ⟨ga, 0, none⟩, 1, 1⟩ [(⟨#[67, 111, 110, 116, 101, 110, 116, 45, 76, 101, 110, 103, 116, 104]⟩, x)] := row6.fs
              have hfew : Few [(⟨#[67, 111, 110, 116, 101, 110, 116, 45, 76, 101, 110, 103, 116, 104]⟩, x)] := by
                intro f hf
                simp only [List.mem_cons, List.not_mem_nil, or_false] at hf
                subst hf
                exact ⟨by simp only; decide, by simp only; omega⟩
              clear row6 bh6 HB6
              obtain ⟨c0, c1, c2, c3, c4, c5⟩ := bh9.six
              go_wp2_with fail
              refine (same_any ⟨#[80, 79, 83, 84]⟩ ⟨#[47]⟩ 0 ⟨#[]⟩ 1 (some ⟨ga, 0, none⟩) 1 1 [(⟨#[67, 111, 110, 116, 101, 110, 116, 45, 76, 101, 110, 103, 116, 104]⟩, x)] W6 (by decide) (by decide) (by decide) F9 (by decide) hfew ⟨#[71, 69, 84]⟩).mono ?_
              rintro e w10 ⟨rfl, hb10⟩
              have bh10 := bh9.up hb10
              have F10 := F9.up hb10
              have HB10 := Lib.hid (bon HB9.out hb10)
              clear c0 c1 c2 c3 c4 c5 bh9 F9 HB9 hb10
              obtain ⟨c0, c1, c2, c3, c4, c5⟩ := bh10.six
              go_wp2_with fail
              refine (same_any ⟨#[]⟩ ⟨#[]⟩ 200 ⟨#[]⟩ 0 (some ⟨ga, 0, none⟩) 1 1 [(⟨#[67, 111, 110, 116, 101, 110, 116, 45, 76, 101, 110, 103, 116, 104]⟩, x)] w10 (by decide) (by decide) (by decide) F10 (by decide) hfew ⟨#[71, 69, 84]⟩).mono ?_
              rintro e w11 ⟨rfl, hb11⟩
              have HB11 := Lib.hid (bon HB10.out hb11)
              clear c0 c1 c2 c3 c4 c5 bh10 F10 HB10 hb11
              go_wp2
              go_roundw
              case rel => exact ⟨k + 1, by omega, by go_num, HB11⟩
              case measure => simp [intOf]; omega
          · obtain rfl : k = 3 := by omega
            go_wp2_with fail
            have hd4 := ba1 wr (.cells #[.string ⟨#[84, 114, 97, 110, 115, 102, 101, 114, 45, 69, 110, 99, 111, 100, 105, 110, 103]⟩, .string cd, .string ⟨#[116, 114, 97, 110, 115, 102, 101, 114, 45, 101, 110, 99, 111, 100, 105, 110, 103]⟩, .string ⟨#[99, 104, 117, 110, 107, 101, 100]⟩] 32)
            have F4 : Fs (wr.alloc (.cells #[.string ⟨#[84, 114, 97, 110, 115, 102, 101, 114, 45, 69, 110, 99, 111, 100, 105, 110, 103]⟩, .string cd, .string ⟨#[116, 114, 97, 110, 115, 102, 101, 114, 45, 101, 110, 99, 111, 100, 105, 110, 103]⟩, .string ⟨#[99, 104, 117, 110, 107, 101, 100]⟩] 32)) ⟨some ⟨wr.heap.size, 0, none⟩, 2, 2⟩ [(⟨#[84, 114, 97, 110, 115, 102, 101, 114, 45, 69, 110, 99, 111, 100, 105, 110, 103]⟩, cd), (⟨#[116, 114, 97, 110, 115, 102, 101, 114, 45, 101, 110, 99, 111, 100, 105, 110, 103]⟩, ⟨#[99, 104, 117, 110, 107, 101, 100]⟩)] := Fs.new wr [(⟨#[84, 114, 97, 110, 115, 102, 101, 114, 45, 69, 110, 99, 111, 100, 105, 110, 103]⟩, cd), (⟨#[116, 114, 97, 110, 115, 102, 101, 114, 45, 101, 110, 99, 111, 100, 105, 110, 103]⟩, ⟨#[99, 104, 117, 110, 107, 101, 100]⟩)] 2 rfl (by decide)
            refine (lhead_any _ 2 2 _).mono ?_
            rintro e w5 ⟨rfl, hc5⟩
            have F5 := F4.up hc5
            have HB5 := Lib.hid (bon HB3.out (bon HBq.out (bon hd4 hc5)))
            obtain ⟨ga, hga⟩ : ∃ g, wr.heap.size = g := ⟨_, rfl⟩
            rw [hga] at F5 ⊢
            clear hga hd4 F4 hc5 HBq HB3
            have hfew2 : Few [(⟨#[84, 114, 97, 110, 115, 102, 101, 114, 45, 69, 110, 99, 111, 100, 105, 110, 103]⟩, cd), (⟨#[116, 114, 97, 110, 115, 102, 101, 114, 45, 101, 110, 99, 111, 100, 105, 110, 103]⟩, ⟨#[99, 104, 117, 110, 107, 101, 100]⟩)] := by
              intro f hf
              simp only [List.mem_cons, List.not_mem_nil, or_false] at hf
              rcases hf with rfl | rfl
              · exact ⟨by simp only; decide, by simp only; omega⟩
              · exact ⟨by decide, by decide⟩
            have hfew1 : Few [(⟨#[84, 114, 97, 110, 115, 102, 101, 114, 45, 69, 110, 99, 111, 100, 105, 110, 103]⟩, cd)] := fun f hf => hfew2 f (by simp at hf; simp [hf])
            cases two with
            | true =>
              cases mn with
              | true =>
                go_upto_region 22 with fail
                have hd6 := ba1 w5 (.cells #[.string ⟨#[80, 79, 83, 84]⟩, .string ⟨#[47]⟩, .int .i64 0, .string ⟨#[]⟩, .int .i64 0, .slice (some ⟨ga, 0, none⟩) 2 2] 25)
                have bh6 := Box.new w5 25 #[.string ⟨#[80, 79, 83, 84]⟩, .string ⟨#[47]⟩, .int .i64 0, .string ⟨#[]⟩, .int .i64 0, .slice (some ⟨ga, 0, none⟩) 2 2]
                have F6 := (F5).up hd6
                have HB6 := Lib.hid (bon HB5.out hd6)
                obtain ⟨gh, hgh⟩ : ∃ g, w5.heap.size = g := ⟨_, rfl⟩
                rw [hgh] at bh6 ⊢
                clear hgh hd6 HB5 F5
                generalize w5.alloc (.cells #[.string ⟨#[80, 79, 83, 84]⟩, .string ⟨#[47]⟩, .int .i64 0, .string ⟨#[]⟩, .int .i64 0, .slice (some ⟨ga, 0, none⟩) 2 2] 25) = W6 at *
                go_wp2_with fail
                refine (awake_any _).mono ?_
                rintro e w7 ⟨rfl, hb7⟩
                obtain ⟨c0, c1, c2, c3, c4, c5⟩ := (bh6.up hb7).six
                go_wp2_with fail
                refine (same_any ⟨#[80, 79, 83, 84]⟩ ⟨#[47]⟩ 0 ⟨#[]⟩ 0 (some ⟨ga, 0, none⟩) 2 2 [(⟨#[84, 114, 97, 110, 115, 102, 101, 114, 45, 69, 110, 99, 111, 100, 105, 110, 103]⟩, cd), (⟨#[116, 114, 97, 110, 115, 102, 101, 114, 45, 101, 110, 99, 111, 100, 105, 110, 103]⟩, ⟨#[99, 104, 117, 110, 107, 101, 100]⟩)] w7 (by decide) (by decide) (by decide) (F6.up hb7) (by decide) hfew2 ⟨#[71, 69, 84]⟩).mono ?_
                rintro e w8 ⟨rfl, hb8⟩
                go_wp2
                go_ret
                exact ⟨by rfl, bon HB6.out (bon hb7 hb8)⟩
              | false =>
                go_upto_region 22 with fail
                have hd6 := ba1 w5 (.cells #[.string ⟨#[80, 79, 83, 84]⟩, .string ⟨#[47]⟩, .int .i64 0, .string ⟨#[]⟩, .int .i64 1, .slice (some ⟨ga, 0, none⟩) 2 2] 25)
                have bh6 := Box.new w5 25 #[.string ⟨#[80, 79, 83, 84]⟩, .string ⟨#[47]⟩, .int .i64 0, .string ⟨#[]⟩, .int .i64 1, .slice (some ⟨ga, 0, none⟩) 2 2]
                have F6 := (F5).up hd6
                have HB6 := Lib.hid (bon HB5.out hd6)
                obtain ⟨gh, hgh⟩ : ∃ g, w5.heap.size = g := ⟨_, rfl⟩
                rw [hgh] at bh6 ⊢
                clear hgh hd6 HB5 F5
                generalize w5.alloc (.cells #[.string ⟨#[80, 79, 83, 84]⟩, .string ⟨#[47]⟩, .int .i64 0, .string ⟨#[]⟩, .int .i64 1, .slice (some ⟨ga, 0, none⟩) 2 2] 25) = W6 at *
                go_wp2_with fail
                refine (awake_any _).mono ?_
                rintro e w7 ⟨rfl, hb7⟩
                obtain ⟨c0, c1, c2, c3, c4, c5⟩ := (bh6.up hb7).six
                go_wp2_with fail
                refine (same_any ⟨#[80, 79, 83, 84]⟩ ⟨#[47]⟩ 0 ⟨#[]⟩ 1 (some ⟨ga, 0, none⟩) 2 2 [(⟨#[84, 114, 97, 110, 115, 102, 101, 114, 45, 69, 110, 99, 111, 100, 105, 110, 103]⟩, cd), (⟨#[116, 114, 97, 110, 115, 102, 101, 114, 45, 101, 110, 99, 111, 100, 105, 110, 103]⟩, ⟨#[99, 104, 117, 110, 107, 101, 100]⟩)] w7 (by decide) (by decide) (by decide) (F6.up hb7) (by decide) hfew2 ⟨#[71, 69, 84]⟩).mono ?_
                rintro e w8 ⟨rfl, hb8⟩
                go_wp2
                go_ret
                exact ⟨by rfl, bon HB6.out (bon hb7 hb8)⟩
            | false =>
              cases mn with
              | true =>
                go_upto_region 22 with fail
                have hd6 := ba1 w5 (.cells #[.string ⟨#[80, 79, 83, 84]⟩, .string ⟨#[47]⟩, .int .i64 0, .string ⟨#[]⟩, .int .i64 0, .slice (some ⟨ga, 0, none⟩) 1 2] 25)
                have bh6 := Box.new w5 25 #[.string ⟨#[80, 79, 83, 84]⟩, .string ⟨#[47]⟩, .int .i64 0, .string ⟨#[]⟩, .int .i64 0, .slice (some ⟨ga, 0, none⟩) 1 2]
                have F6 := (F5.take1).up hd6
                have HB6 := Lib.hid (bon HB5.out hd6)
                obtain ⟨gh, hgh⟩ : ∃ g, w5.heap.size = g := ⟨_, rfl⟩
                rw [hgh] at bh6 ⊢
                clear hgh hd6 HB5 F5
                generalize w5.alloc (.cells #[.string ⟨#[80, 79, 83, 84]⟩, .string ⟨#[47]⟩, .int .i64 0, .string ⟨#[]⟩, .int .i64 0, .slice (some ⟨ga, 0, none⟩) 1 2] 25) = W6 at *
                go_wp2_with fail
                refine (awake_any _).mono ?_
                rintro e w7 ⟨rfl, hb7⟩
                obtain ⟨c0, c1, c2, c3, c4, c5⟩ := (bh6.up hb7).six
                go_wp2_with fail
                refine (same_any ⟨#[80, 79, 83, 84]⟩ ⟨#[47]⟩ 0 ⟨#[]⟩ 0 (some ⟨ga, 0, none⟩) 1 2 [(⟨#[84, 114, 97, 110, 115, 102, 101, 114, 45, 69, 110, 99, 111, 100, 105, 110, 103]⟩, cd)] w7 (by decide) (by decide) (by decide) (F6.up hb7) (by decide) hfew1 ⟨#[71, 69, 84]⟩).mono ?_
                rintro e w8 ⟨rfl, hb8⟩
                go_wp2
                go_ret
                exact ⟨by rfl, bon HB6.out (bon hb7 hb8)⟩
              | false =>
                go_upto_region 22 with fail
                have hd6 := ba1 w5 (.cells #[.string ⟨#[80, 79, 83, 84]⟩, .string ⟨#[47]⟩, .int .i64 0, .string ⟨#[]⟩, .int .i64 1, .slice (some ⟨ga, 0, none⟩) 1 2] 25)
                have bh6 := Box.new w5 25 #[.string ⟨#[80, 79, 83, 84]⟩, .string ⟨#[47]⟩, .int .i64 0, .string ⟨#[]⟩, .int .i64 1, .slice (some ⟨ga, 0, none⟩) 1 2]
                have F6 := (F5.take1).up hd6
                have HB6 := Lib.hid (bon HB5.out hd6)
                obtain ⟨gh, hgh⟩ : ∃ g, w5.heap.size = g := ⟨_, rfl⟩
                rw [hgh] at bh6 ⊢
                clear hgh hd6 HB5 F5
                generalize w5.alloc (.cells #[.string ⟨#[80, 79, 83, 84]⟩, .string ⟨#[47]⟩, .int .i64 0, .string ⟨#[]⟩, .int .i64 1, .slice (some ⟨ga, 0, none⟩) 1 2] 25) = W6 at *
                go_wp2_with fail
                refine (awake_any _).mono ?_
                rintro e w7 ⟨rfl, hb7⟩
                obtain ⟨c0, c1, c2, c3, c4, c5⟩ := (bh6.up hb7).six
                go_wp2_with fail
                refine (same_any ⟨#[80, 79, 83, 84]⟩ ⟨#[47]⟩ 0 ⟨#[]⟩ 1 (some ⟨ga, 0, none⟩) 1 2 [(⟨#[84, 114, 97, 110, 115, 102, 101, 114, 45, 69, 110, 99, 111, 100, 105, 110, 103]⟩, cd)] w7 (by decide) (by decide) (by decide) (F6.up hb7) (by decide) hfew1 ⟨#[71, 69, 84]⟩).mono ?_
                rintro e w8 ⟨rfl, hb8⟩
                go_wp2
                go_ret
                exact ⟨by rfl, bon HB6.out (bon hb7 hb8)⟩



end Go.Proofs.YtginijeajenghaaDoor
