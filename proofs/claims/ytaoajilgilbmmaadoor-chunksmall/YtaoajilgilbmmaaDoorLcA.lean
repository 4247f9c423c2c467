/-
  The walks of the laws' own same and awake, of chunks.
-/
import Derived.Test.YtaoajilgilbmmaaDoorPgF
import Derived.Test.YtaoajilgilbmmaaDoorPgE
import Derived.Deep.RegionHeld3
namespace Go.Proofs.YtaoajilgilbmmaaDoor
open Go.RowKit

theorem held12 {W1 w w' : World} {a0 a1 a2 a3 a4 a5 a6 a7 a8 a9 a10 a11 : Addr} {v0 v1 v2 v3 v4 v5 v6 v7 v8 v9 v10 v11 : Value} (hb : Below w.heap.size w w') (h : Below W1.heap.size W1 w ∧ w.cell? a0 = some v0 ∧ w.cell? a1 = some v1 ∧ w.cell? a2 = some v2 ∧ w.cell? a3 = some v3 ∧ w.cell? a4 = some v4 ∧ w.cell? a5 = some v5 ∧ w.cell? a6 = some v6 ∧ w.cell? a7 = some v7 ∧ w.cell? a8 = some v8 ∧ w.cell? a9 = some v9 ∧ w.cell? a10 = some v10 ∧ w.cell? a11 = some v11) :
    Below W1.heap.size W1 w' ∧ w'.cell? a0 = some v0 ∧ w'.cell? a1 = some v1 ∧ w'.cell? a2 = some v2 ∧ w'.cell? a3 = some v3 ∧ w'.cell? a4 = some v4 ∧ w'.cell? a5 = some v5 ∧ w'.cell? a6 = some v6 ∧ w'.cell? a7 = some v7 ∧ w'.cell? a8 = some v8 ∧ w'.cell? a9 = some v9 ∧ w'.cell? a10 = some v10 ∧ w'.cell? a11 = some v11 :=
  ⟨bon h.1 hb, cell_up hb h.2.1, cell_up hb h.2.2.1, cell_up hb h.2.2.2.1, cell_up hb h.2.2.2.2.1, cell_up hb h.2.2.2.2.2.1, cell_up hb h.2.2.2.2.2.2.1, cell_up hb h.2.2.2.2.2.2.2.1, cell_up hb h.2.2.2.2.2.2.2.2.1, cell_up hb h.2.2.2.2.2.2.2.2.2.1, cell_up hb h.2.2.2.2.2.2.2.2.2.2.1, cell_up hb h.2.2.2.2.2.2.2.2.2.2.2.1, cell_up hb h.2.2.2.2.2.2.2.2.2.2.2.2⟩

set_option maxRecDepth 100000 in
set_option maxHeartbeats 4000000 in
theorem csame_any (s l : Int) (ln : ByteArray) (m : Int) (S : ByteArray) (hS : S.size ≤ 140737488355328) (w : World) : Calls Tryd.prog 10 #[.agg #[.int .i64 s, .int .i64 l, .string ln, .int .i64 m], .string S] w (BoolEnds true w) := by
  obtain ⟨Q, hQ⟩ : ∃ Q, feedC (ckOf s l ln m) (dl S) = Q := ⟨_, rfl⟩
  obtain ⟨bs, hbs⟩ : ∃ b, decide (okC (ckOf s l ln m)) = b := ⟨_, rfl⟩
  have HF : Hid (∀ W, Calls Tryd.prog 15 #[.agg #[.int .i64 s, .int .i64 l, .string ln, .int .i64 m], .string S] W (FeedEnds Q W)) := Lib.hid (fun W => by rw [← hQ]; exact cfeed_any s l ln m S hS W)
  have HR : Hid (∀ W, Calls Tryd.prog 12 #[.agg #[.int .i64 s, .int .i64 l, .string ln, .int .i64 m], .string S] W (FeedEnds Q W)) := Lib.hid (fun W => by rw [← hQ]; exact rfeed_any s l ln m S hS W)
  have HP3 : Hid (∀ W, Calls Tryd.prog 16 #[.agg #[.int .i64 s, .int .i64 l, .string ln, .int .i64 m]] W (BoolEnds bs W)) := Lib.hid (fun W => by rw [← hbs]; exact cright_any s l ln m W)
  have HR3 : Hid (∀ W, Calls Tryd.prog 17 #[.agg #[.int .i64 s, .int .i64 l, .string ln, .int .i64 m]] W (BoolEnds bs W)) := Lib.hid (fun W => by rw [← hbs]; exact rckright_any s l ln m W)
  clear hQ hbs
  obtain ⟨⟨sq, lq, nq, mq⟩, n, bq, er⟩ := Q
  have hb0 := ba1 w (.cells #[.int .i64 s, .int .i64 l, .string ln, .int .i64 m] 23)
  have bh := Box.new w 23 #[.int .i64 s, .int .i64 l, .string ln, .int .i64 m]
  go_enter Tryd.func10, Tryd.ntmps10
  go_wp2_with fail
  obtain ⟨g, hg⟩ : ∃ g, w.heap.size = g := ⟨_, rfl⟩
  rw [hg] at bh ⊢
  clear hg
  generalize w.alloc (.cells #[.int .i64 s, .int .i64 l, .string ln, .int .i64 m] 23) = W0 at *
  refine (HF.out _).mono ?_
  rintro e w1 ⟨n1, B, rfl, h1, h2, hb1⟩
  simp only at h1 h2 ⊢
  go_upto_region 2 with fail
  have hd := bon hb1 (ba1 w1 (.cells #[.int .i64 sq, .int .i64 lq, .string n1, .int .i64 mq] 23))
  have bh1 := bh.up hd
  have hB1 := bon hb0 hd
  have bx1 := Box.new w1 23 #[.int .i64 sq, .int .i64 lq, .string n1, .int .i64 mq]
  obtain ⟨g1, hg⟩ : ∃ g, w1.heap.size = g := ⟨_, rfl⟩
  rw [hg] at bx1 ⊢
  clear hg hd hb1 hb0 bh
  generalize w1.alloc (.cells #[.int .i64 sq, .int .i64 lq, .string n1, .int .i64 mq] 23) = W1 at *
  obtain ⟨c0, c1, c2, c3⟩ := bh1.four
  go_wp2_with fail
  clear c0 c1 c2 c3
  refine (HR.out _).mono ?_
  rintro e w2 ⟨n2, B2, rfl, h3, h4, hb2⟩
  simp only at h3 h4 ⊢
  obtain rfl : n1 = n2 := dl_inj (h1.trans h3.symm)
  obtain rfl : B = B2 := dl_inj (h2.trans h4.symm)
  clear h1 h2 h3 h4
  go_upto_region 3 with fail
  have hd := bon hb2 (ba1 w2 (.cells #[.int .i64 sq, .int .i64 lq, .string n1, .int .i64 mq] 23))
  have bh2 := bh1.up hd
  have bx3 := bx1.up hd
  have hB2 := bon hB1 hd
  have bx2 := Box.new w2 23 #[.int .i64 sq, .int .i64 lq, .string n1, .int .i64 mq]
  obtain ⟨g2, hg⟩ : ∃ g, w2.heap.size = g := ⟨_, rfl⟩
  rw [hg] at bx2 ⊢
  clear hg hd hb2 hB1 bh1 bx1
  generalize w2.alloc (.cells #[.int .i64 sq, .int .i64 lq, .string n1, .int .i64 mq] 23) = W2 at *
  obtain ⟨c0, c1, c2, c3⟩ := bh2.four
  obtain ⟨d0, d1, d2, d3⟩ := bx3.four
  obtain ⟨x0, x1, x2, x3⟩ := bx2.four
  clear bh2 bx2 bx3 HF HR
  go_region_held3 (fun w' => Below W2.heap.size W2 w' ∧ w'.cell? ⟨g, 0, none⟩ = some (.int .i64 s) ∧ w'.cell? ⟨g, 1, none⟩ = some (.int .i64 l) ∧ w'.cell? ⟨g, 2, none⟩ = some (.string ln) ∧ w'.cell? ⟨g, 3, none⟩ = some (.int .i64 m) ∧ w'.cell? ⟨g1, 0, none⟩ = some (.int .i64 sq) ∧ w'.cell? ⟨g1, 1, none⟩ = some (.int .i64 lq) ∧ w'.cell? ⟨g1, 2, none⟩ = some (.string n1) ∧ w'.cell? ⟨g1, 3, none⟩ = some (.int .i64 mq) ∧ w'.cell? ⟨g2, 0, none⟩ = some (.int .i64 sq) ∧ w'.cell? ⟨g2, 1, none⟩ = some (.int .i64 lq) ∧ w'.cell? ⟨g2, 2, none⟩ = some (.string n1) ∧ w'.cell? ⟨g2, 3, none⟩ = some (.int .i64 mq))
    (first | exact held12 hbP (by assumption) | exact ⟨(Below.refl _ _).drew, c0, c1, c2, c3, d0, d1, d2, d3, x0, x1, x2, x3⟩)
    (first
      | (go_at_call 16; refine (HP3.out _).mono ?_; rintro e wP ⟨rfl, hbP⟩)
      | (go_at_call 17; refine (HR3.out _).mono ?_; rintro e wP ⟨rfl, hbP⟩)
      | fail)
  rename_i hHeld
  have hfin := hHeld.1
  clear hHeld c0 c1 c2 c3 d0 d1 d2 d3 x0 x1 x2 x3
  go_wp2
  go_ret
  exact ⟨by first | rfl | simp, bon hB2 hfin⟩

theorem caw_1 : feedC ⟨0, 0, [], 0⟩ (dl ⟨#[51, 13, 10, 97, 98, 99, 13, 10, 48, 13, 10, 13, 10, 120]⟩) = (⟨4, 0, [], 3⟩, 13, dl ⟨#[97, 98, 99]⟩, 0) := by
  have e := feed_back 3 (by decide) (dl ⟨#[97, 98, 99]⟩) [120] (by decide)
  have e2 : encL 3 (dl ⟨#[97, 98, 99]⟩) = [51, 13, 10, 97, 98, 99, 13, 10, 48, 13, 10, 13, 10] := by
    rw [encL, enc_cons (by decide) (by decide), show List.drop 3 (dl ⟨#[97, 98, 99]⟩) = [] from rfl, enc_nil, show ((min 3 (dl ⟨#[97, 98, 99]⟩).length : Nat) : Int) = ((3 : Nat) : Int) from rfl, text_hex (by decide), dgs_small (by decide)]
    rfl
  rw [e2] at e
  exact e
theorem caw_2 : feedC ⟨0, 0, [], 0⟩ (dl ⟨#[103, 13, 10]⟩) = (⟨0, 0, [], 0⟩, 0, [], 23) := by kernel_rfl
theorem caw_3 : encC (dl ⟨#[97, 98, 99, 100]⟩) 3 = (dl ⟨#[51, 13, 10, 97, 98, 99, 13, 10, 49, 13, 10, 100, 13, 10, 48, 13, 10, 13, 10]⟩, 0) := by
  unfold encC
  rw [if_neg (by decide)]
  have e : ∀ n : Nat, n < 16 → textN (n : Int) 16 = [chN n] := fun n h => by rw [text_hex (by omega), dgs_small h]
  rw [encL, show (3 : Int).toNat = 3 from rfl, enc_cons (by decide) (by decide), enc_cons (by decide) (by decide), show List.drop 3 (List.drop 3 (dl ⟨#[97, 98, 99, 100]⟩)) = [] from rfl, enc_nil, show min 3 (dl ⟨#[97, 98, 99, 100]⟩).length = 3 from rfl, show min 3 (List.drop 3 (dl ⟨#[97, 98, 99, 100]⟩)).length = 1 from rfl, e 3 (by decide), e 1 (by decide)]
  rfl
theorem caw_4 : decide (okC (ckOf 4 0 ⟨#[]⟩ 3)) = true := by decide +kernel
theorem caw_5 : decide (okC (ckOf 5 0 ⟨#[]⟩ 0)) = false := by decide +kernel

set_option maxRecDepth 100000 in
set_option maxHeartbeats 4000000 in
theorem cawake_any (w : World) (hT : Tabs w) : Calls Tryd.prog 9 #[] w (BoolEnds true w) := by
  have HTb := Lib.hid hT
  clear hT
  have H1 : Hid (∀ W, Calls Tryd.prog 15 #[.agg #[.int .i64 0, .int .i64 0, .string ⟨#[]⟩, .int .i64 0], .string ⟨#[51, 13, 10, 97, 98, 99, 13, 10, 48, 13, 10, 13, 10, 120]⟩] W fun e w' => e = .returned (.tuple #[.agg #[.int .i64 4, .int .i64 0, .string ⟨#[]⟩, .int .i64 3], .int .i64 13, .string ⟨#[97, 98, 99]⟩, .int .i64 0]) ∧ Below W.heap.size W w') := Lib.hid (fun W => by
    refine (cfeed_any 0 0 ⟨#[]⟩ 0 ⟨#[51, 13, 10, 97, 98, 99, 13, 10, 48, 13, 10, 13, 10, 120]⟩ (by decide) W).mono ?_
    rintro e w' ⟨n1, B, rfl, h1, h2, hb⟩
    rw [show ckOf 0 0 ⟨#[]⟩ 0 = ⟨0, 0, [], 0⟩ from rfl, caw_1] at h1 h2 ⊢
    obtain rfl : n1 = ⟨#[]⟩ := dl_inj h1
    obtain rfl : B = ⟨#[97, 98, 99]⟩ := dl_inj h2
    exact ⟨rfl, hb⟩)
  have H2 : Hid (∀ W, Calls Tryd.prog 15 #[.agg #[.int .i64 0, .int .i64 0, .string ⟨#[]⟩, .int .i64 0], .string ⟨#[103, 13, 10]⟩] W fun e w' => e = .returned (.tuple #[.agg #[.int .i64 0, .int .i64 0, .string ⟨#[]⟩, .int .i64 0], .int .i64 0, .string ⟨#[]⟩, .int .i64 23]) ∧ Below W.heap.size W w') := Lib.hid (fun W => by
    refine (cfeed_any 0 0 ⟨#[]⟩ 0 ⟨#[103, 13, 10]⟩ (by decide) W).mono ?_
    rintro e w' ⟨n1, B, rfl, h1, h2, hb⟩
    rw [show ckOf 0 0 ⟨#[]⟩ 0 = ⟨0, 0, [], 0⟩ from rfl, caw_2] at h1 h2 ⊢
    obtain rfl : n1 = ⟨#[]⟩ := dl_inj h1
    obtain rfl : B = ⟨#[]⟩ := dl_inj h2
    exact ⟨rfl, hb⟩)
  have H3 : Hid (∀ W, Tabs W → Calls Tryd.prog 13 #[.string ⟨#[97, 98, 99, 100]⟩, .int .i64 3] W fun e w' => e = .returned (.tuple #[.string ⟨#[51, 13, 10, 97, 98, 99, 13, 10, 49, 13, 10, 100, 13, 10, 48, 13, 10, 13, 10]⟩, .int .i64 0]) ∧ Below W.heap.size W w') := Lib.hid (fun W hW => by
    refine (cencode_any ⟨#[97, 98, 99, 100]⟩ 3 (by decide) W hW).mono ?_
    rintro e w' ⟨t, rfl, ht, hb⟩
    rw [caw_3] at ht ⊢
    obtain rfl : t = ⟨#[51, 13, 10, 97, 98, 99, 13, 10, 49, 13, 10, 100, 13, 10, 48, 13, 10, 13, 10]⟩ := dl_inj ht
    exact ⟨rfl, hb⟩)
  have H4 : Hid (∀ W, Calls Tryd.prog 16 #[.agg #[.int .i64 4, .int .i64 0, .string ⟨#[]⟩, .int .i64 3]] W (BoolEnds true W)) := Lib.hid (fun W => by rw [← caw_4]; exact cright_any 4 0 ⟨#[]⟩ 3 W)
  have H5 : Hid (∀ W, Calls Tryd.prog 16 #[.agg #[.int .i64 5, .int .i64 0, .string ⟨#[]⟩, .int .i64 0]] W (BoolEnds false W)) := Lib.hid (fun W => by rw [← caw_5]; exact cright_any 5 0 ⟨#[]⟩ 0 W)
  go_enter Tryd.func9, Tryd.ntmps9
  go_wp2_with fail
  refine (H1.out _).mono ?_
  rintro e w1 ⟨rfl, hb1⟩
  go_upto_region 2 with fail
  have hd1 := bon hb1 (ba1 w1 (.cells #[.int .i64 4, .int .i64 0, .string ⟨#[]⟩, .int .i64 3] 23))
  have bx := Box.new w1 23 #[.int .i64 4, .int .i64 0, .string ⟨#[]⟩, .int .i64 3]
  obtain ⟨g, hg⟩ : ∃ g, w1.heap.size = g := ⟨_, rfl⟩
  rw [hg] at bx ⊢
  clear hg hb1
  generalize w1.alloc (.cells #[.int .i64 4, .int .i64 0, .string ⟨#[]⟩, .int .i64 3] 23) = W1 at *
  go_wp2_with fail
  refine (H2.out _).mono ?_
  rintro e w2 ⟨rfl, hb2⟩
  go_upto_region 3 with fail
  have hd2 := bon hb2 (ba1 w2 (.cells #[.int .i64 0, .int .i64 0, .string ⟨#[]⟩, .int .i64 0] 23))
  have bx2 := bx.up hd2
  have hB2 := bon hd1 hd2
  obtain ⟨gz, hg⟩ : ∃ g, w2.heap.size = g := ⟨_, rfl⟩
  rw [hg]
  clear hg hb2 bx hd1 hd2
  generalize w2.alloc (.cells #[.int .i64 0, .int .i64 0, .string ⟨#[]⟩, .int .i64 0] 23) = W2 at *
  go_wp2_with fail
  refine (H3.out _ (HTb.out.up hB2)).mono ?_
  rintro e w3 ⟨rfl, hb3⟩
  have bx3 := bx2.up hb3
  have hB3 := bon hB2 hb3
  clear bx2 hB2 hb3
  obtain ⟨c0, c1, c2, c3⟩ := bx3.four
  go_wp2_with fail
  refine (H4.out _).mono ?_
  rintro e w4 ⟨rfl, hb4⟩
  have hB4 := bon hB3 hb4
  clear c0 c1 c2 c3 bx3 hB3 hb4
  go_wp2_with fail
  refine (H5.out _).mono ?_
  rintro e w5 ⟨rfl, hb5⟩
  go_wp2
  go_ret
  exact ⟨by rfl, bon hB4 hb5⟩

end Go.Proofs.YtaoajilgilbmmaaDoor
