/-
  The walk of the laws' own 'told': of whatever wheel, wheel and the document's own answer tell the same.
-/
import Derived.Test.YtncbfkoldllbpaaStd
import Derived.Deep.RegionHeld3
namespace Go.Proofs.Ytncbfkoldllbpaa
open Go.RowKit

theorem cell_up {w w' : World} {p : Addr} {v : Value} (hb : Below w.heap.size w w') (h : w.cell? p = some v) : w'.cell? p = some v := (hb.cell (World.block_lt_of_cell? _ _ h)).trans h

theorem toldS {W5 X w' : World} {a0 a1 a2 a3 a4 a5 a6 a7 a8 a9 a10 a11 a12 a13 a14 a15 a16 a17 a18 a19 a20 a21 a22 a23 a24 a25 a26 a27 a28 a29 a30 a31 a32 a33 a34 a35 a36 a37 a38 a39 a40 a41 a42 a43 a44 a45 a46 a47 a48 a49 a50 a51 a52 a53 a54 a55 a56 a57 a58 a59 a60 a61 a62 : Addr} {v0 v1 v2 v3 v4 v5 v6 v7 v8 v9 v10 v11 v12 v13 v14 v15 v16 v17 v18 v19 v20 v21 v22 v23 v24 v25 v26 v27 v28 v29 v30 v31 v32 v33 v34 v35 v36 v37 v38 v39 v40 v41 v42 v43 v44 v45 v46 v47 v48 v49 v50 v51 v52 v53 v54 v55 v56 v57 v58 v59 v60 v61 v62 : Value} (hb : Below X.heap.size X w')
    (h : Below W5.heap.size W5 X ∧ X.cell? a0 = some v0 ∧ X.cell? a1 = some v1 ∧ X.cell? a2 = some v2 ∧ X.cell? a3 = some v3 ∧ X.cell? a4 = some v4 ∧ X.cell? a5 = some v5 ∧ X.cell? a6 = some v6 ∧ X.cell? a7 = some v7 ∧ X.cell? a8 = some v8 ∧ X.cell? a9 = some v9 ∧ X.cell? a10 = some v10 ∧ X.cell? a11 = some v11 ∧ X.cell? a12 = some v12 ∧ X.cell? a13 = some v13 ∧ X.cell? a14 = some v14 ∧ X.cell? a15 = some v15 ∧ X.cell? a16 = some v16 ∧ X.cell? a17 = some v17 ∧ X.cell? a18 = some v18 ∧ X.cell? a19 = some v19 ∧ X.cell? a20 = some v20 ∧ X.cell? a21 = some v21 ∧ X.cell? a22 = some v22 ∧ X.cell? a23 = some v23 ∧ X.cell? a24 = some v24 ∧ X.cell? a25 = some v25 ∧ X.cell? a26 = some v26 ∧ X.cell? a27 = some v27 ∧ X.cell? a28 = some v28 ∧ X.cell? a29 = some v29 ∧ X.cell? a30 = some v30 ∧ X.cell? a31 = some v31 ∧ X.cell? a32 = some v32 ∧ X.cell? a33 = some v33 ∧ X.cell? a34 = some v34 ∧ X.cell? a35 = some v35 ∧ X.cell? a36 = some v36 ∧ X.cell? a37 = some v37 ∧ X.cell? a38 = some v38 ∧ X.cell? a39 = some v39 ∧ X.cell? a40 = some v40 ∧ X.cell? a41 = some v41 ∧ X.cell? a42 = some v42 ∧ X.cell? a43 = some v43 ∧ X.cell? a44 = some v44 ∧ X.cell? a45 = some v45 ∧ X.cell? a46 = some v46 ∧ X.cell? a47 = some v47 ∧ X.cell? a48 = some v48 ∧ X.cell? a49 = some v49 ∧ X.cell? a50 = some v50 ∧ X.cell? a51 = some v51 ∧ X.cell? a52 = some v52 ∧ X.cell? a53 = some v53 ∧ X.cell? a54 = some v54 ∧ X.cell? a55 = some v55 ∧ X.cell? a56 = some v56 ∧ X.cell? a57 = some v57 ∧ X.cell? a58 = some v58 ∧ X.cell? a59 = some v59 ∧ X.cell? a60 = some v60 ∧ X.cell? a61 = some v61 ∧ X.cell? a62 = some v62) :
    Below W5.heap.size W5 w' ∧ w'.cell? a0 = some v0 ∧ w'.cell? a1 = some v1 ∧ w'.cell? a2 = some v2 ∧ w'.cell? a3 = some v3 ∧ w'.cell? a4 = some v4 ∧ w'.cell? a5 = some v5 ∧ w'.cell? a6 = some v6 ∧ w'.cell? a7 = some v7 ∧ w'.cell? a8 = some v8 ∧ w'.cell? a9 = some v9 ∧ w'.cell? a10 = some v10 ∧ w'.cell? a11 = some v11 ∧ w'.cell? a12 = some v12 ∧ w'.cell? a13 = some v13 ∧ w'.cell? a14 = some v14 ∧ w'.cell? a15 = some v15 ∧ w'.cell? a16 = some v16 ∧ w'.cell? a17 = some v17 ∧ w'.cell? a18 = some v18 ∧ w'.cell? a19 = some v19 ∧ w'.cell? a20 = some v20 ∧ w'.cell? a21 = some v21 ∧ w'.cell? a22 = some v22 ∧ w'.cell? a23 = some v23 ∧ w'.cell? a24 = some v24 ∧ w'.cell? a25 = some v25 ∧ w'.cell? a26 = some v26 ∧ w'.cell? a27 = some v27 ∧ w'.cell? a28 = some v28 ∧ w'.cell? a29 = some v29 ∧ w'.cell? a30 = some v30 ∧ w'.cell? a31 = some v31 ∧ w'.cell? a32 = some v32 ∧ w'.cell? a33 = some v33 ∧ w'.cell? a34 = some v34 ∧ w'.cell? a35 = some v35 ∧ w'.cell? a36 = some v36 ∧ w'.cell? a37 = some v37 ∧ w'.cell? a38 = some v38 ∧ w'.cell? a39 = some v39 ∧ w'.cell? a40 = some v40 ∧ w'.cell? a41 = some v41 ∧ w'.cell? a42 = some v42 ∧ w'.cell? a43 = some v43 ∧ w'.cell? a44 = some v44 ∧ w'.cell? a45 = some v45 ∧ w'.cell? a46 = some v46 ∧ w'.cell? a47 = some v47 ∧ w'.cell? a48 = some v48 ∧ w'.cell? a49 = some v49 ∧ w'.cell? a50 = some v50 ∧ w'.cell? a51 = some v51 ∧ w'.cell? a52 = some v52 ∧ w'.cell? a53 = some v53 ∧ w'.cell? a54 = some v54 ∧ w'.cell? a55 = some v55 ∧ w'.cell? a56 = some v56 ∧ w'.cell? a57 = some v57 ∧ w'.cell? a58 = some v58 ∧ w'.cell? a59 = some v59 ∧ w'.cell? a60 = some v60 ∧ w'.cell? a61 = some v61 ∧ w'.cell? a62 = some v62 := by
  obtain ⟨h, h0, h1, h2, h3, h4, h5, h6, h7, h8, h9, h10, h11, h12, h13, h14, h15, h16, h17, h18, h19, h20, h21, h22, h23, h24, h25, h26, h27, h28, h29, h30, h31, h32, h33, h34, h35, h36, h37, h38, h39, h40, h41, h42, h43, h44, h45, h46, h47, h48, h49, h50, h51, h52, h53, h54, h55, h56, h57, h58, h59, h60, h61, h62⟩ := h
  exact ⟨bon h hb, cell_up hb h0, cell_up hb h1, cell_up hb h2, cell_up hb h3, cell_up hb h4, cell_up hb h5, cell_up hb h6, cell_up hb h7, cell_up hb h8, cell_up hb h9, cell_up hb h10, cell_up hb h11, cell_up hb h12, cell_up hb h13, cell_up hb h14, cell_up hb h15, cell_up hb h16, cell_up hb h17, cell_up hb h18, cell_up hb h19, cell_up hb h20, cell_up hb h21, cell_up hb h22, cell_up hb h23, cell_up hb h24, cell_up hb h25, cell_up hb h26, cell_up hb h27, cell_up hb h28, cell_up hb h29, cell_up hb h30, cell_up hb h31, cell_up hb h32, cell_up hb h33, cell_up hb h34, cell_up hb h35, cell_up hb h36, cell_up hb h37, cell_up hb h38, cell_up hb h39, cell_up hb h40, cell_up hb h41, cell_up hb h42, cell_up hb h43, cell_up hb h44, cell_up hb h45, cell_up hb h46, cell_up hb h47, cell_up hb h48, cell_up hb h49, cell_up hb h50, cell_up hb h51, cell_up hb h52, cell_up hb h53, cell_up hb h54, cell_up hb h55, cell_up hb h56, cell_up hb h57, cell_up hb h58, cell_up hb h59, cell_up hb h60, cell_up hb h61, cell_up hb h62⟩

set_option maxRecDepth 100000 in
set_option maxHeartbeats 16000000 in
theorem told_any (P : P4) (W : Wl) (S : Nat → Sli) (id at_ : Int) (w : World) (h : At w W S) (hwf : Wf W) (hf : manyN W ≤ 1000) (hid : I64 id) (hat : I64 at_) : Calls Try.prog 9 #[wv W.now S, .int .i64 id, .int .i64 at_] w (BoolEnds true w) := by
  obtain ⟨⟨W1, y1⟩, hq1⟩ : ∃ q, setN W id at_ = q := ⟨_, rfl⟩
  obtain ⟨⟨W2, y2⟩, hq2⟩ : ∃ q, cancelN W id = q := ⟨_, rfl⟩
  obtain ⟨⟨W3, fs, y3⟩, hq3⟩ : ∃ q, tickN W = q := ⟨_, rfl⟩
  have hfs : fs.length ≤ 1000 := by have := tick_len W; rw [hq3] at this; exact Nat.le_trans this hf
  have H1 : Hid (∀ X, Below w.heap.size w X → Calls Try.prog 13 #[wv W.now S, .int .i64 id, .int .i64 at_] X (WhR (W1, y1) X)) := Lib.hid (fun X hb => hq1 ▸ P.set W S id at_ X (h.up hb) hwf hf hid hat)
  have H2 : Hid (∀ X, Below w.heap.size w X → Calls Try.prog 15 #[wv W.now S, .int .i64 id, .int .i64 at_] X (WhR (W1, y1) X)) := Lib.hid (fun X hb => hq1 ▸ (rset_any W S id at_ X (h.up hb) (by omega)).mono fun _ _ h => h.r)
  have H3 : Hid (∀ X, Below w.heap.size w X → Calls Try.prog 12 #[wv W.now S, .int .i64 id] X (WhR (W2, y2) X)) := Lib.hid (fun X hb => hq2 ▸ P.cancel W S id X (h.up hb) hwf hf hid)
  have H4 : Hid (∀ X, Below w.heap.size w X → Calls Try.prog 16 #[wv W.now S, .int .i64 id] X (WhR (W2, y2) X)) := Lib.hid (fun X hb => hq2 ▸ (rcancel_any W S id X (h.up hb) (by omega)).mono fun _ _ h => h.r)
  have H5 : Hid (∀ X, Below w.heap.size w X → Calls Try.prog 11 #[wv W.now S] X (TkR (W3, fs, y3) X)) := Lib.hid (fun X hb => hq3 ▸ P.tick W S X (h.up hb) hwf hf)
  have H6 : Hid (∀ X, Below w.heap.size w X → Calls Try.prog 17 #[wv W.now S] X (TkR (W3, fs, y3) X)) := Lib.hid (fun X hb => hq3 ▸ (rtick_any W S X (h.up hb) (by omega)).mono fun _ _ h => h.r)
  have H7 : Hid (∀ X, Below w.heap.size w X → Calls Try.prog 14 #[wv W.now S] X (BoolEnds (okB W) X)) := Lib.hid (fun X hb => P.right W S X (h.up hb) hwf hf)
  have H8 : Hid (∀ X, Below w.heap.size w X → Calls Try.prog 18 #[wv W.now S] X (BoolEnds (okB W) X)) := Lib.hid (fun X hb => rright_any W S X (h.up hb) (by omega))
  obtain ⟨now, hn⟩ : ∃ now, W.now = now := ⟨_, rfl⟩
  obtain ⟨n1, hn1⟩ : ∃ n1, W1.now = n1 := ⟨_, rfl⟩
  obtain ⟨n2, hn2⟩ : ∃ n2, W2.now = n2 := ⟨_, rfl⟩
  obtain ⟨n3, hn3⟩ : ∃ n3, W3.now = n3 := ⟨_, rfl⟩
  have HN1 := Lib.hid hn1
  have HN2 := Lib.hid hn2
  have HN3 := Lib.hid hn3
  rw [hn] at H1 H2 H3 H4 H5 H6 H7 H8 ⊢
  obtain ⟨bo, hbo⟩ : ∃ bo, okB W = bo := ⟨_, rfl⟩
  rw [hbo] at H7 H8
  clear hq1 hq2 hq3 hbo hn hn1 hn2 hn3 h hwf hid hat P
  unfold wv at H1 H2 H3 H4 H5 H6 H7 H8 ⊢
  go_enter Try.func9, Try.ntmps9
  obtain ⟨g0, hg0⟩ : ∃ g0, w.heap.size = g0 := ⟨_, rfl⟩
  have b0 := Box.mk' w 25 (wcs now S) g0 hg0
  have hb := ba1 w (.cells (wcs now S) 25)
  obtain ⟨c0, c1, c2, c3, c4, c5, c6, c7, c8⟩ := b0.nine
  have HG0 := Lib.hid hg0
  go_wp2_with fail
  refine (H1.out _ hb).mono ?_
  rintro e w1 ⟨S1, rfl, k1, hbx⟩
  rw [HN1.out]
  unfold wv
  obtain ⟨g1, hg1⟩ : ∃ g1, w1.heap.size = g1 := ⟨_, rfl⟩
  have b0 := (b0.up hbx).alloc (.cells (wcs n1 S1) 25)
  have b1 := Box.mk' w1 25 (wcs n1 S1) g1 hg1
  have k1 := k1.up (ba1 w1 (.cells (wcs n1 S1) 25))
  have hb := bon (bon hb hbx) (ba1 w1 (.cells (wcs n1 S1) 25))
  clear c0 c1 c2 c3 c4 c5 c6 c7 c8
  have HG1 := Lib.hid hg1
  obtain ⟨c0, c1, c2, c3, c4, c5, c6, c7, c8⟩ := b0.nine
  go_wp2_with fail
  refine (H2.out _ hb).mono ?_
  rintro e w2 ⟨S2, rfl, k2, hbx⟩
  rw [HN1.out]
  unfold wv
  obtain ⟨g2, hg2⟩ : ∃ g2, w2.heap.size = g2 := ⟨_, rfl⟩
  have b0 := (b0.up hbx).alloc (.cells (wcs n1 S2) 25)
  have b1 := (b1.up hbx).alloc (.cells (wcs n1 S2) 25)
  have b2 := Box.mk' w2 25 (wcs n1 S2) g2 hg2
  have k1 := (k1.up hbx).up (ba1 w2 (.cells (wcs n1 S2) 25))
  have k2 := k2.up (ba1 w2 (.cells (wcs n1 S2) 25))
  have hb := bon (bon hb hbx) (ba1 w2 (.cells (wcs n1 S2) 25))
  clear c0 c1 c2 c3 c4 c5 c6 c7 c8
  have HG2 := Lib.hid hg2
  obtain ⟨c0, c1, c2, c3, c4, c5, c6, c7, c8⟩ := b0.nine
  go_wp2_with fail
  refine (H3.out _ hb).mono ?_
  rintro e w3 ⟨S3, rfl, k3, hbx⟩
  rw [HN2.out]
  unfold wv
  obtain ⟨g3, hg3⟩ : ∃ g3, w3.heap.size = g3 := ⟨_, rfl⟩
  have b0 := (b0.up hbx).alloc (.cells (wcs n2 S3) 25)
  have b1 := (b1.up hbx).alloc (.cells (wcs n2 S3) 25)
  have b2 := (b2.up hbx).alloc (.cells (wcs n2 S3) 25)
  have b3 := Box.mk' w3 25 (wcs n2 S3) g3 hg3
  have k1 := (k1.up hbx).up (ba1 w3 (.cells (wcs n2 S3) 25))
  have k2 := (k2.up hbx).up (ba1 w3 (.cells (wcs n2 S3) 25))
  have k3 := k3.up (ba1 w3 (.cells (wcs n2 S3) 25))
  have hb := bon (bon hb hbx) (ba1 w3 (.cells (wcs n2 S3) 25))
  clear c0 c1 c2 c3 c4 c5 c6 c7 c8
  have HG3 := Lib.hid hg3
  obtain ⟨c0, c1, c2, c3, c4, c5, c6, c7, c8⟩ := b0.nine
  go_wp2_with fail
  refine (H4.out _ hb).mono ?_
  rintro e w4 ⟨S4, rfl, k4, hbx⟩
  rw [HN2.out]
  unfold wv
  obtain ⟨g4, hg4⟩ : ∃ g4, w4.heap.size = g4 := ⟨_, rfl⟩
  have b0 := (b0.up hbx).alloc (.cells (wcs n2 S4) 25)
  have b1 := (b1.up hbx).alloc (.cells (wcs n2 S4) 25)
  have b2 := (b2.up hbx).alloc (.cells (wcs n2 S4) 25)
  have b3 := (b3.up hbx).alloc (.cells (wcs n2 S4) 25)
  have b4 := Box.mk' w4 25 (wcs n2 S4) g4 hg4
  have k1 := (k1.up hbx).up (ba1 w4 (.cells (wcs n2 S4) 25))
  have k2 := (k2.up hbx).up (ba1 w4 (.cells (wcs n2 S4) 25))
  have k3 := (k3.up hbx).up (ba1 w4 (.cells (wcs n2 S4) 25))
  have k4 := k4.up (ba1 w4 (.cells (wcs n2 S4) 25))
  have hb := bon (bon hb hbx) (ba1 w4 (.cells (wcs n2 S4) 25))
  clear c0 c1 c2 c3 c4 c5 c6 c7 c8
  have HG4 := Lib.hid hg4
  obtain ⟨c0, c1, c2, c3, c4, c5, c6, c7, c8⟩ := b0.nine
  go_wp2_with fail
  refine (H5.out _ hb).mono ?_
  rintro e w5 ⟨S5, F5, rfl, k5, f5, hbx⟩
  rw [HN3.out]
  unfold wv
  obtain ⟨g5, hg5⟩ : ∃ g5, w5.heap.size = g5 := ⟨_, rfl⟩
  have b0 := (b0.up hbx).alloc (.cells (wcs n3 S5) 25)
  have b1 := (b1.up hbx).alloc (.cells (wcs n3 S5) 25)
  have b2 := (b2.up hbx).alloc (.cells (wcs n3 S5) 25)
  have b3 := (b3.up hbx).alloc (.cells (wcs n3 S5) 25)
  have b4 := (b4.up hbx).alloc (.cells (wcs n3 S5) 25)
  have b5 := Box.mk' w5 25 (wcs n3 S5) g5 hg5
  have k1 := (k1.up hbx).up (ba1 w5 (.cells (wcs n3 S5) 25))
  have k2 := (k2.up hbx).up (ba1 w5 (.cells (wcs n3 S5) 25))
  have k3 := (k3.up hbx).up (ba1 w5 (.cells (wcs n3 S5) 25))
  have k4 := (k4.up hbx).up (ba1 w5 (.cells (wcs n3 S5) 25))
  have k5 := k5.up (ba1 w5 (.cells (wcs n3 S5) 25))
  have f5 := f5.up (ba1 w5 (.cells (wcs n3 S5) 25))
  have hb := bon (bon hb hbx) (ba1 w5 (.cells (wcs n3 S5) 25))
  clear c0 c1 c2 c3 c4 c5 c6 c7 c8
  have HG5 := Lib.hid hg5
  obtain ⟨c0, c1, c2, c3, c4, c5, c6, c7, c8⟩ := b0.nine
  go_wp2_with fail
  refine (H6.out _ hb).mono ?_
  rintro e w6 ⟨S6, F6, rfl, k6, f6, hbx⟩
  rw [HN3.out]
  unfold wv
  obtain ⟨g6, hg6⟩ : ∃ g6, w6.heap.size = g6 := ⟨_, rfl⟩
  have b0 := (b0.up hbx).alloc (.cells (wcs n3 S6) 25)
  have b1 := (b1.up hbx).alloc (.cells (wcs n3 S6) 25)
  have b2 := (b2.up hbx).alloc (.cells (wcs n3 S6) 25)
  have b3 := (b3.up hbx).alloc (.cells (wcs n3 S6) 25)
  have b4 := (b4.up hbx).alloc (.cells (wcs n3 S6) 25)
  have b5 := (b5.up hbx).alloc (.cells (wcs n3 S6) 25)
  have b6 := Box.mk' w6 25 (wcs n3 S6) g6 hg6
  have k1 := (k1.up hbx).up (ba1 w6 (.cells (wcs n3 S6) 25))
  have k2 := (k2.up hbx).up (ba1 w6 (.cells (wcs n3 S6) 25))
  have k3 := (k3.up hbx).up (ba1 w6 (.cells (wcs n3 S6) 25))
  have k4 := (k4.up hbx).up (ba1 w6 (.cells (wcs n3 S6) 25))
  have k5 := (k5.up hbx).up (ba1 w6 (.cells (wcs n3 S6) 25))
  have f5 := (f5.up hbx).up (ba1 w6 (.cells (wcs n3 S6) 25))
  have k6 := k6.up (ba1 w6 (.cells (wcs n3 S6) 25))
  have f6 := f6.up (ba1 w6 (.cells (wcs n3 S6) 25))
  have hb := bon (bon hb hbx) (ba1 w6 (.cells (wcs n3 S6) 25))
  clear c0 c1 c2 c3 c4 c5 c6 c7 c8
  have HG6 := Lib.hid hg6
  obtain ⟨c0, c1, c2, c3, c4, c5, c6, c7, c8⟩ := b0.nine
  go_wp2_with fail
  clear c0 c1 c2 c3 c4 c5 c6 c7 c8
  clear hg0 hg1 hg2 hg3 hg4 hg5 hg6 HG0 HG1 HG2 HG3 HG4 HG5 HG6
  generalize w6.alloc (.cells (wcs n3 S6) 25) = W5 at *
  have HW5 := Lib.hid hb
  have HR1 : Hid (∀ X, Below W5.heap.size W5 X → Calls Try.prog 14 #[(.agg #[.int .i64 now, .slice (S 0).A (S 0).n (S 0).c, .slice (S 1).A (S 1).n (S 1).c, .slice (S 2).A (S 2).n (S 2).c, .slice (S 3).A (S 3).n (S 3).c, .slice (S 4).A (S 4).n (S 4).c, .slice (S 5).A (S 5).n (S 5).c, .slice (S 6).A (S 6).n (S 6).c, .slice (S 7).A (S 7).n (S 7).c])] X (BoolEnds bo X)) := Lib.hid (fun X hx => H7.out X (bon hb hx))
  have HR2 : Hid (∀ X, Below W5.heap.size W5 X → Calls Try.prog 18 #[(.agg #[.int .i64 now, .slice (S 0).A (S 0).n (S 0).c, .slice (S 1).A (S 1).n (S 1).c, .slice (S 2).A (S 2).n (S 2).c, .slice (S 3).A (S 3).n (S 3).c, .slice (S 4).A (S 4).n (S 4).c, .slice (S 5).A (S 5).n (S 5).c, .slice (S 6).A (S 6).n (S 6).c, .slice (S 7).A (S 7).n (S 7).c])] X (BoolEnds bo X)) := Lib.hid (fun X hx => H8.out X (bon hb hx))
  have HR3 : Hid (∀ X, Below W5.heap.size W5 X → Calls Try.prog 19 #[(.agg #[.int .i64 n1, .slice (S1 0).A (S1 0).n (S1 0).c, .slice (S1 1).A (S1 1).n (S1 1).c, .slice (S1 2).A (S1 2).n (S1 2).c, .slice (S1 3).A (S1 3).n (S1 3).c, .slice (S1 4).A (S1 4).n (S1 4).c, .slice (S1 5).A (S1 5).n (S1 5).c, .slice (S1 6).A (S1 6).n (S1 6).c, .slice (S1 7).A (S1 7).n (S1 7).c]), (.agg #[.int .i64 n1, .slice (S2 0).A (S2 0).n (S2 0).c, .slice (S2 1).A (S2 1).n (S2 1).c, .slice (S2 2).A (S2 2).n (S2 2).c, .slice (S2 3).A (S2 3).n (S2 3).c, .slice (S2 4).A (S2 4).n (S2 4).c, .slice (S2 5).A (S2 5).n (S2 5).c, .slice (S2 6).A (S2 6).n (S2 6).c, .slice (S2 7).A (S2 7).n (S2 7).c])] X (BoolEnds true X)) := Lib.hid (fun X hx => by have := same_any W1 S1 S2 X (k1.up hx) (k2.up hx); rw [HN1.out] at this; exact this)
  have HR4 : Hid (∀ X, Below W5.heap.size W5 X → Calls Try.prog 19 #[(.agg #[.int .i64 n2, .slice (S3 0).A (S3 0).n (S3 0).c, .slice (S3 1).A (S3 1).n (S3 1).c, .slice (S3 2).A (S3 2).n (S3 2).c, .slice (S3 3).A (S3 3).n (S3 3).c, .slice (S3 4).A (S3 4).n (S3 4).c, .slice (S3 5).A (S3 5).n (S3 5).c, .slice (S3 6).A (S3 6).n (S3 6).c, .slice (S3 7).A (S3 7).n (S3 7).c]), (.agg #[.int .i64 n2, .slice (S4 0).A (S4 0).n (S4 0).c, .slice (S4 1).A (S4 1).n (S4 1).c, .slice (S4 2).A (S4 2).n (S4 2).c, .slice (S4 3).A (S4 3).n (S4 3).c, .slice (S4 4).A (S4 4).n (S4 4).c, .slice (S4 5).A (S4 5).n (S4 5).c, .slice (S4 6).A (S4 6).n (S4 6).c, .slice (S4 7).A (S4 7).n (S4 7).c])] X (BoolEnds true X)) := Lib.hid (fun X hx => by have := same_any W2 S3 S4 X (k3.up hx) (k4.up hx); rw [HN2.out] at this; exact this)
  have HR5 : Hid (∀ X, Below W5.heap.size W5 X → Calls Try.prog 19 #[(.agg #[.int .i64 n3, .slice (S5 0).A (S5 0).n (S5 0).c, .slice (S5 1).A (S5 1).n (S5 1).c, .slice (S5 2).A (S5 2).n (S5 2).c, .slice (S5 3).A (S5 3).n (S5 3).c, .slice (S5 4).A (S5 4).n (S5 4).c, .slice (S5 5).A (S5 5).n (S5 5).c, .slice (S5 6).A (S5 6).n (S5 6).c, .slice (S5 7).A (S5 7).n (S5 7).c]), (.agg #[.int .i64 n3, .slice (S6 0).A (S6 0).n (S6 0).c, .slice (S6 1).A (S6 1).n (S6 1).c, .slice (S6 2).A (S6 2).n (S6 2).c, .slice (S6 3).A (S6 3).n (S6 3).c, .slice (S6 4).A (S6 4).n (S6 4).c, .slice (S6 5).A (S6 5).n (S6 5).c, .slice (S6 6).A (S6 6).n (S6 6).c, .slice (S6 7).A (S6 7).n (S6 7).c])] X (BoolEnds true X)) := Lib.hid (fun X hx => by have := same_any W3 S5 S6 X (k5.up hx) (k6.up hx); rw [HN3.out] at this; exact this)
  have HR6 : Hid (∀ X, Below W5.heap.size W5 X → Calls Try.prog 20 #[.slice F5.A F5.n F5.c, .slice F6.A F6.n F6.c] X (BoolEnds true X)) := Lib.hid (fun X hx => ints_any fs F5 F6 X (f5.up hx) (f6.up hx) (by omega))
  obtain ⟨p0, p1, p2, p3, p4, p5, p6, p7, p8⟩ := b0.nine
  obtain ⟨p9, p10, p11, p12, p13, p14, p15, p16, p17⟩ := b1.nine
  obtain ⟨p18, p19, p20, p21, p22, p23, p24, p25, p26⟩ := b2.nine
  obtain ⟨p27, p28, p29, p30, p31, p32, p33, p34, p35⟩ := b3.nine
  obtain ⟨p36, p37, p38, p39, p40, p41, p42, p43, p44⟩ := b4.nine
  obtain ⟨p45, p46, p47, p48, p49, p50, p51, p52, p53⟩ := b5.nine
  obtain ⟨p54, p55, p56, p57, p58, p59, p60, p61, p62⟩ := b6.nine
  clear b0 b1 b2 b3 b4 b5 b6 k1 k2 k3 k4 k5 k6 f5 f6 hb H1 H2 H3 H4 H5 H6 H7 H8 HN1 HN2 HN3
  go_region_held3 (fun w' => Below W5.heap.size W5 w' ∧ w'.cell? ⟨g0, 0, none⟩ = some (.int .i64 now) ∧ w'.cell? ⟨g0, 1, none⟩ = some (.slice (S 0).A (S 0).n (S 0).c) ∧ w'.cell? ⟨g0, 2, none⟩ = some (.slice (S 1).A (S 1).n (S 1).c) ∧ w'.cell? ⟨g0, 3, none⟩ = some (.slice (S 2).A (S 2).n (S 2).c) ∧ w'.cell? ⟨g0, 4, none⟩ = some (.slice (S 3).A (S 3).n (S 3).c) ∧ w'.cell? ⟨g0, 5, none⟩ = some (.slice (S 4).A (S 4).n (S 4).c) ∧ w'.cell? ⟨g0, 6, none⟩ = some (.slice (S 5).A (S 5).n (S 5).c) ∧ w'.cell? ⟨g0, 7, none⟩ = some (.slice (S 6).A (S 6).n (S 6).c) ∧ w'.cell? ⟨g0, 8, none⟩ = some (.slice (S 7).A (S 7).n (S 7).c) ∧ w'.cell? ⟨g1, 0, none⟩ = some (.int .i64 n1) ∧ w'.cell? ⟨g1, 1, none⟩ = some (.slice (S1 0).A (S1 0).n (S1 0).c) ∧ w'.cell? ⟨g1, 2, none⟩ = some (.slice (S1 1).A (S1 1).n (S1 1).c) ∧ w'.cell? ⟨g1, 3, none⟩ = some (.slice (S1 2).A (S1 2).n (S1 2).c) ∧ w'.cell? ⟨g1, 4, none⟩ = some (.slice (S1 3).A (S1 3).n (S1 3).c) ∧ w'.cell? ⟨g1, 5, none⟩ = some (.slice (S1 4).A (S1 4).n (S1 4).c) ∧ w'.cell? ⟨g1, 6, none⟩ = some (.slice (S1 5).A (S1 5).n (S1 5).c) ∧ w'.cell? ⟨g1, 7, none⟩ = some (.slice (S1 6).A (S1 6).n (S1 6).c) ∧ w'.cell? ⟨g1, 8, none⟩ = some (.slice (S1 7).A (S1 7).n (S1 7).c) ∧ w'.cell? ⟨g2, 0, none⟩ = some (.int .i64 n1) ∧ w'.cell? ⟨g2, 1, none⟩ = some (.slice (S2 0).A (S2 0).n (S2 0).c) ∧ w'.cell? ⟨g2, 2, none⟩ = some (.slice (S2 1).A (S2 1).n (S2 1).c) ∧ w'.cell? ⟨g2, 3, none⟩ = some (.slice (S2 2).A (S2 2).n (S2 2).c) ∧ w'.cell? ⟨g2, 4, none⟩ = some (.slice (S2 3).A (S2 3).n (S2 3).c) ∧ w'.cell? ⟨g2, 5, none⟩ = some (.slice (S2 4).A (S2 4).n (S2 4).c) ∧ w'.cell? ⟨g2, 6, none⟩ = some (.slice (S2 5).A (S2 5).n (S2 5).c) ∧ w'.cell? ⟨g2, 7, none⟩ = some (.slice (S2 6).A (S2 6).n (S2 6).c) ∧ w'.cell? ⟨g2, 8, none⟩ = some (.slice (S2 7).A (S2 7).n (S2 7).c) ∧ w'.cell? ⟨g3, 0, none⟩ = some (.int .i64 n2) ∧ w'.cell? ⟨g3, 1, none⟩ = some (.slice (S3 0).A (S3 0).n (S3 0).c) ∧ w'.cell? ⟨g3, 2, none⟩ = some (.slice (S3 1).A (S3 1).n (S3 1).c) ∧ w'.cell? ⟨g3, 3, none⟩ = some (.slice (S3 2).A (S3 2).n (S3 2).c) ∧ w'.cell? ⟨g3, 4, none⟩ = some (.slice (S3 3).A (S3 3).n (S3 3).c) ∧ w'.cell? ⟨g3, 5, none⟩ = some (.slice (S3 4).A (S3 4).n (S3 4).c) ∧ w'.cell? ⟨g3, 6, none⟩ = some (.slice (S3 5).A (S3 5).n (S3 5).c) ∧ w'.cell? ⟨g3, 7, none⟩ = some (.slice (S3 6).A (S3 6).n (S3 6).c) ∧ w'.cell? ⟨g3, 8, none⟩ = some (.slice (S3 7).A (S3 7).n (S3 7).c) ∧ w'.cell? ⟨g4, 0, none⟩ = some (.int .i64 n2) ∧ w'.cell? ⟨g4, 1, none⟩ = some (.slice (S4 0).A (S4 0).n (S4 0).c) ∧ w'.cell? ⟨g4, 2, none⟩ = some (.slice (S4 1).A (S4 1).n (S4 1).c) ∧ w'.cell? ⟨g4, 3, none⟩ = some (.slice (S4 2).A (S4 2).n (S4 2).c) ∧ w'.cell? ⟨g4, 4, none⟩ = some (.slice (S4 3).A (S4 3).n (S4 3).c) ∧ w'.cell? ⟨g4, 5, none⟩ = some (.slice (S4 4).A (S4 4).n (S4 4).c) ∧ w'.cell? ⟨g4, 6, none⟩ = some (.slice (S4 5).A (S4 5).n (S4 5).c) ∧ w'.cell? ⟨g4, 7, none⟩ = some (.slice (S4 6).A (S4 6).n (S4 6).c) ∧ w'.cell? ⟨g4, 8, none⟩ = some (.slice (S4 7).A (S4 7).n (S4 7).c) ∧ w'.cell? ⟨g5, 0, none⟩ = some (.int .i64 n3) ∧ w'.cell? ⟨g5, 1, none⟩ = some (.slice (S5 0).A (S5 0).n (S5 0).c) ∧ w'.cell? ⟨g5, 2, none⟩ = some (.slice (S5 1).A (S5 1).n (S5 1).c) ∧ w'.cell? ⟨g5, 3, none⟩ = some (.slice (S5 2).A (S5 2).n (S5 2).c) ∧ w'.cell? ⟨g5, 4, none⟩ = some (.slice (S5 3).A (S5 3).n (S5 3).c) ∧ w'.cell? ⟨g5, 5, none⟩ = some (.slice (S5 4).A (S5 4).n (S5 4).c) ∧ w'.cell? ⟨g5, 6, none⟩ = some (.slice (S5 5).A (S5 5).n (S5 5).c) ∧ w'.cell? ⟨g5, 7, none⟩ = some (.slice (S5 6).A (S5 6).n (S5 6).c) ∧ w'.cell? ⟨g5, 8, none⟩ = some (.slice (S5 7).A (S5 7).n (S5 7).c) ∧ w'.cell? ⟨g6, 0, none⟩ = some (.int .i64 n3) ∧ w'.cell? ⟨g6, 1, none⟩ = some (.slice (S6 0).A (S6 0).n (S6 0).c) ∧ w'.cell? ⟨g6, 2, none⟩ = some (.slice (S6 1).A (S6 1).n (S6 1).c) ∧ w'.cell? ⟨g6, 3, none⟩ = some (.slice (S6 2).A (S6 2).n (S6 2).c) ∧ w'.cell? ⟨g6, 4, none⟩ = some (.slice (S6 3).A (S6 3).n (S6 3).c) ∧ w'.cell? ⟨g6, 5, none⟩ = some (.slice (S6 4).A (S6 4).n (S6 4).c) ∧ w'.cell? ⟨g6, 6, none⟩ = some (.slice (S6 5).A (S6 5).n (S6 5).c) ∧ w'.cell? ⟨g6, 7, none⟩ = some (.slice (S6 6).A (S6 6).n (S6 6).c) ∧ w'.cell? ⟨g6, 8, none⟩ = some (.slice (S6 7).A (S6 7).n (S6 7).c))
    (first | exact toldS hbP (by assumption) | exact ⟨(Below.refl _ _).drew, p0, p1, p2, p3, p4, p5, p6, p7, p8, p9, p10, p11, p12, p13, p14, p15, p16, p17, p18, p19, p20, p21, p22, p23, p24, p25, p26, p27, p28, p29, p30, p31, p32, p33, p34, p35, p36, p37, p38, p39, p40, p41, p42, p43, p44, p45, p46, p47, p48, p49, p50, p51, p52, p53, p54, p55, p56, p57, p58, p59, p60, p61, p62⟩)
    (first
      | (go_at_call 14; refine (HR1.out _ ?_).mono ?_; exact And.left (by assumption); rintro e wP ⟨rfl, hbP⟩)
      | (go_at_call 18; refine (HR2.out _ ?_).mono ?_; exact And.left (by assumption); rintro e wP ⟨rfl, hbP⟩)
      | (go_at_call_of 19 (Value.agg #[Value.int IntKind.i64 n1, Value.slice (S1 0).A (S1 0).n (S1 0).c, Value.slice (S1 1).A (S1 1).n (S1 1).c, Value.slice (S1 2).A (S1 2).n (S1 2).c, Value.slice (S1 3).A (S1 3).n (S1 3).c, Value.slice (S1 4).A (S1 4).n (S1 4).c, Value.slice (S1 5).A (S1 5).n (S1 5).c, Value.slice (S1 6).A (S1 6).n (S1 6).c, Value.slice (S1 7).A (S1 7).n (S1 7).c]); refine (HR3.out _ ?_).mono ?_; exact And.left (by assumption); rintro e wP ⟨rfl, hbP⟩)
      | (go_at_call_of 19 (Value.agg #[Value.int IntKind.i64 n2, Value.slice (S3 0).A (S3 0).n (S3 0).c, Value.slice (S3 1).A (S3 1).n (S3 1).c, Value.slice (S3 2).A (S3 2).n (S3 2).c, Value.slice (S3 3).A (S3 3).n (S3 3).c, Value.slice (S3 4).A (S3 4).n (S3 4).c, Value.slice (S3 5).A (S3 5).n (S3 5).c, Value.slice (S3 6).A (S3 6).n (S3 6).c, Value.slice (S3 7).A (S3 7).n (S3 7).c]); refine (HR4.out _ ?_).mono ?_; exact And.left (by assumption); rintro e wP ⟨rfl, hbP⟩)
      | (go_at_call_of 19 (Value.agg #[Value.int IntKind.i64 n3, Value.slice (S5 0).A (S5 0).n (S5 0).c, Value.slice (S5 1).A (S5 1).n (S5 1).c, Value.slice (S5 2).A (S5 2).n (S5 2).c, Value.slice (S5 3).A (S5 3).n (S5 3).c, Value.slice (S5 4).A (S5 4).n (S5 4).c, Value.slice (S5 5).A (S5 5).n (S5 5).c, Value.slice (S5 6).A (S5 6).n (S5 6).c, Value.slice (S5 7).A (S5 7).n (S5 7).c]); refine (HR5.out _ ?_).mono ?_; exact And.left (by assumption); rintro e wP ⟨rfl, hbP⟩)
      | (go_at_call 20; refine (HR6.out _ ?_).mono ?_; exact And.left (by assumption); rintro e wP ⟨rfl, hbP⟩))
  rename_i hHeld
  have hfin : Below W5.heap.size W5 wP := hHeld.1
  clear hHeld
  go_wp2
  go_ret
  exact ⟨rfl, bon HW5.out hfin⟩

end Go.Proofs.Ytncbfkoldllbpaa
