/-
  The walks of message's own methods that turn the reader in its box.
-/
import Derived.Test.YtdlihfbaepjliaaGreatDoorPx
import Derived.Test.YtdlihfbaepjliaaGreatDoorJMc
import Derived.Test.YtdlihfbaepjliaaGreatDoorJOwnG
import Derived.Test.YtdlihfbaepjliaaGreatDoorJHdI
import Derived.Test.YtdlihfbaepjliaaGreatDoorJLawB
namespace Go.Proofs.YtdlihfbaepjliaaGreatDoor
open Go.RowKit
attribute [local go_sem ↓] exec_ldR exec_ldH exec_ldK exec_ldM exec_stR exec_stH exec_stK exec_stM exec_bdM exec_bsM
attribute [local go_sem] run_bdM run_bsM run_ldR run_ldH run_ldK run_ldM run_stR run_stH run_stK run_stM ldO_at stO_at rcs_size hcs_size kcs_size mca_size rcs_one hcs_one kcs_one mca_one rcs_oneN hcs_oneN kcs_oneN mca_oneN rcs_now rcs_ck mca_head hpat_drew hpat_new
attribute [local go_sem ↓] exec_stP exec_bdP
attribute [local go_sem] run_stP run_bdP pcs_size pcs_one pcs_oneN pcs_rd pcs_now pcs_ck pspl_now pspl_ck pspl_rd

theorem below_drewN (w : World) (n : Nat) : Below w.heap.size w (w.drewN n) := ⟨rfl, rfl, rfl, Nat.le_refl _, fun _ _ => rfl⟩
theorem end_unit {fn : Func} {tmps : Array Value} {w : World} (hf : fn.results = #[]) : (results fn tmps).run Tryz.prog w = .ok (.tuple #[]) w := by
  unfold results
  rw [hf]
  simp
theorem IEnds.row {w W : World} {g : Nat} {R : Rr} {S O : Sli} (h : PS W g R S O) (hb : But g w W) {A0 : Option Addr} {f0 : List Fd} (hL : Loc w A0 f0 S.A (mkF R.now.fs)) : IEnds g O A0 f0 R w (.returned (.tuple #[])) W :=
  ⟨rfl, S, h, hb, hL⟩
set_option maxRecDepth 100000 in
set_option maxHeartbeats 2000000 in
theorem pfail_c (R : Rr) (S O : Sli) (er : Int) (A0 : Option Addr) (f0 : List Fd) (g : Nat) (w : World) (h : PS w g R S O) : Calls Tryz.prog 88 #[.pointer (some ⟨g, 0, none⟩), .int .i64 er] w (IEnds g O A0 f0 (failR R er) w) := by
  have c0 : w.cell? ⟨g, 0, none⟩ = some (.bool R.a) := h.bx.c 0 rfl
  have c1 : w.cell? ⟨g, 1, none⟩ = some (.string (tb R.q)) := h.bx.c 1 rfl
  go_enter Tryz.func88, Tryz.ntmps88
  go_upto_region 0 with fail
  go_region_held3 (fun W' => W'.cell? ⟨g, 0, none⟩ = some (.bool R.a) ∧ W'.cell? ⟨g, 1, none⟩ = some (.string (tb R.q)))
    (first | exact ⟨c0, c1⟩ | exact ⟨hbx2.c 0 rfl, hbx2.c 1 rfl⟩ | exact ⟨(box_row (pcs (newR R.a R.q) ⟨none, 0, 0⟩ O) hbx2).c 0 rfl, (box_row (pcs (newR R.a R.q) ⟨none, 0, 0⟩ O) hbx2).c 1 rfl⟩ | fail)
    (first
      | (go_at_call 20; refine (mnew_c R.a R.q _).mono ?_; rintro E w2 ⟨rfl, hb2⟩; have hd2 : Below w.heap.size w w2 := bon ((Below.refl w.heap.size w).drew) hb2; have hbx2 : Box w2 g 75 (pcs R S O) := h.bx.up hd2; have hbg2 : hpat w2 g = some (.cells (pcs R S O) 75 (0, 0)) := hbx2)
      | fail)
  rename_i hHeld
  have h3 : PS (w2.setRow g (pcs (newR R.a R.q) ⟨none, 0, 0⟩ O)) g (newR R.a R.q) ⟨none, 0, 0⟩ O := (h.up hd2).row (fs_zero _) (fun hne => absurd rfl hne)
  have hB := but_row (But.of (g := g) hd2) (pcs (newR R.a R.q) ⟨none, 0, 0⟩ O)
  clear hHeld c0 c1 hbx2 hbg2 hb2 hd2 h
  generalize w2.setRow g (pcs (newR R.a R.q) ⟨none, 0, 0⟩ O) = W3 at *
  have c16 : W3.cell? ⟨g, 16, none⟩ = some (.int .i64 0) := h3.bx.c 16 rfl
  have d16 : W3.frozen? ⟨g, 16, none⟩ = false := h3.bx.f 16
  have e1 : W3.setCell ⟨g, 16, none⟩ (.int .i64 er) = W3.setRow g (pcs (failR R er) ⟨none, 0, 0⟩ O) := pset_e h3.bx er
  have HE1 := Lib.hid e1
  clear e1
  go_wp2
  refine ⟨rfl, .tuple #[], end_unit rfl, ?_⟩
  rw [HE1.out]
  exact IEnds.row (h3.row0 (R' := failR R er) rfl) (but_row hB _) (loc_none _ _ _ _)
set_option maxRecDepth 100000 in
set_option maxHeartbeats 2000000 in
theorem pcomplete_c (R : Rr) (S O : Sli) (g : Nat) (w : World) (h : PS w g R S O) : Calls Tryz.prog 66 #[.pointer (some ⟨g, 0, none⟩)] w (BoolEnds (wholeR R) w) := by
  have c3 : w.cell? ⟨g, 3, none⟩ = some (.int .i64 R.k) := h.bx.c 3 rfl
  have c4 : w.cell? ⟨g, 4, none⟩ = some (.int .i64 R.z) := h.bx.c 4 rfl
  have c5 : w.cell? ⟨g, 5, none⟩ = some (.string (tb R.b)) := h.bx.c 5 rfl
  have c6 : w.cell? ⟨g, 6, none⟩ = some (.int .i64 R.ck.s) := h.bx.c 6 rfl
  obtain ⟨B, hB⟩ : ∃ B, wholeR R = B := ⟨_, rfl⟩
  rw [hB]
  have HB : Hid (B = if R.k = 1 then true else if R.k = 2 then decide ((R.b.length : Int) = R.z) else if R.k = 3 then decide (R.ck.s = 4) else false) := Lib.hid (by rw [← hB]; rfl)
  clear hB h
  have hc : R.k = 1 ∨ R.k = 2 ∨ R.k = 3 ∨ (R.k ≠ 1 ∧ R.k ≠ 2 ∧ R.k ≠ 3) := by omega
  rcases hc with hk | hk | hk | ⟨h1, h2, h3⟩
  · rw [hk] at c3 HB
    clear hk
    go_enter Tryz.func66, Tryz.ntmps66
    go_wp2
    go_ret
    exact ⟨ret_bool (by rw [HB.out]; rfl), Below.refl _ _⟩
  · rw [hk] at c3 HB
    clear hk
    have HV : Hid (B = (((tb R.b).size : Int) == R.z)) := Lib.hid (by rw [HB.out, tb_size, if_neg (by decide), if_pos rfl]; rfl)
    clear HB
    go_enter Tryz.func66, Tryz.ntmps66
    go_upto_region 5 with fail
    go_quiet (fail)
    go_wp2
    go_ret
    exact ⟨ret_bool (by rw [HV.out]), below_drewN _ _⟩
  · rw [hk] at c3 HB
    clear hk
    have HV : Hid (B = (R.ck.s == 4)) := Lib.hid (by rw [HB.out, if_neg (by decide), if_neg (by decide), if_pos rfl]; rfl)
    clear HB
    go_enter Tryz.func66, Tryz.ntmps66
    go_wp2
    go_ret
    exact ⟨ret_bool (by rw [HV.out]), Below.refl _ _⟩
  · have HV : Hid (B = false) := Lib.hid (by rw [HB.out, if_neg h1, if_neg h2, if_neg h3])
    have b1 : (R.k == 1) = false := beq_eq_false_iff_ne.2 h1
    have b2 : (R.k == 2) = false := beq_eq_false_iff_ne.2 h2
    have b3 : (R.k == 3) = false := beq_eq_false_iff_ne.2 h3
    clear HB h1 h2 h3
    go_enter Tryz.func66, Tryz.ntmps66
    go_wp2
    go_ret
    exact ⟨ret_bool HV.out.symm, Below.refl _ _⟩
set_option maxRecDepth 100000 in
set_option maxHeartbeats 2000000 in
theorem pplain_c (R : Rr) (S O : Sli) (ch : UInt8) (g : Nat) (w : World) (h : PS w g R S O) (hbb : R.b.length ≤ 4611686018427387000) : Calls Tryz.prog 65 #[.pointer (some ⟨g, 0, none⟩), .string (tb [ch])] w (IEnds g O S.A (mkF R.now.fs) (if R.b.length = 4000 then failR R 2 else { R with b := R.b ++ [ch] }) w) := by
  have c5 : w.cell? ⟨g, 5, none⟩ = some (.string (tb R.b)) := h.bx.c 5 rfl
  have d5 : w.frozen? ⟨g, 5, none⟩ = false := h.bx.f 5
  have hsz : (tb R.b).size = R.b.length := tb_size _
  by_cases b4 : R.b.length = 4000
  · rw [if_pos b4]
    have hb4 : (((tb R.b).size : Int) == 4000) = true := by rw [hsz, b4]; rfl
    clear hsz b4 hbb
    go_enter Tryz.func65, Tryz.ntmps65
    go_wp2_with fail
    refine (pfail_c R S O 2 S.A (mkF R.now.fs) g w h).mono ?_
    rintro E w2 ⟨rfl, S2, h2, hB, hL⟩
    go_wp2
    refine ⟨rfl, .tuple #[], end_unit rfl, ?_⟩
    exact IEnds.row h2 hB hL
  · rw [if_neg b4]
    have hb4 : (((tb R.b).size : Int) == 4000) = false := by rw [hsz]; exact beq_eq_false_iff_ne.2 (by omega)
    have hxs : (tb [ch]).size = 1 := by rw [tb_size]; rfl
    have kadd := fun W => run_string_add_sum (P := Tryz.prog) W (tb R.b) (tb [ch]) (by rw [tb_size, hxs]; omega)
    have e1 : w.setCell ⟨g, 5, none⟩ (.string (tb R.b ++ tb [ch])) = w.setRow g (pcs { R with b := R.b ++ [ch] } S O) := by rw [tb_app]; exact pset_b h.bx _
    have HE1 := Lib.hid e1
    clear hsz b4 hbb e1 hxs
    go_enter Tryz.func65, Tryz.ntmps65
    go_wp2
    refine ⟨rfl, .tuple #[], end_unit rfl, ?_⟩
    rw [HE1.out]
    exact IEnds.row (h.row0 (R' := { R with b := R.b ++ [ch] }) rfl) (but_row (But.refl g w) _) (loc_same _ _ _)
theorem pfeed_c (c : Ck) (ch : UInt8) (w : World) : Calls Tryz.prog 89 #[.agg (kcs c), .string (tb [ch])] w (KEnds (feedC c [ch]) w) := by
  have := (cfeed_any c.s c.l (tb c.ln) c.m (tb [ch]) (by rw [tb_size]; simp) w).mono fun _ _ h => kends_of h
  rw [ckOf_tb, dl_tb] at this
  exact this
theorem pparse_c (s : Bs) (a : Bool) (w : World) (hM : Mx w) (hs : s.length ≤ 4096) : Calls Tryz.prog 107 #[.string (tb s), .bool a] w (HdEnds (parseH s a) w) := by
  have := (hparse_any (tb s) a w (by rw [tb_size]; omega) hM).mono fun _ _ h => heads_of h
  rw [dl_tb] at this
  exact this
set_option maxRecDepth 100000 in
set_option maxHeartbeats 2000000 in
theorem pchunk_c (R : Rr) (S O : Sli) (ch : UInt8) (g : Nat) (w : World) (h : PS w g R S O) (hbb : R.b.length ≤ 4611686018427387000) : Calls Tryz.prog 64 #[.pointer (some ⟨g, 0, none⟩), .string (tb [ch])] w (IEnds g O S.A (mkF R.now.fs) (if (feedC R.ck [ch]).2.2.2 ≠ 0 then failR R (feedC R.ck [ch]).2.2.2 else { R with ck := (feedC R.ck [ch]).1, b := R.b ++ (feedC R.ck [ch]).2.2.1 }) w) := by
  have hbg : hpat w g = some (.cells (pcs R S O) 75 (0, 0)) := h.bx
  have HFd := Lib.hid (pfeed_c R.ck ch)
  have hsh := feed_short R.ck ch
  obtain ⟨fq, hfq⟩ : ∃ f, feedC R.ck [ch] = f := ⟨_, rfl⟩
  rw [hfq] at HFd hsh ⊢
  clear hfq
  obtain ⟨c1, nn, bq, er⟩ := fq
  simp only at HFd hsh ⊢
  obtain ⟨R', hR⟩ : ∃ R' : Rr, (if er ≠ 0 then failR R er else { R with ck := c1, b := R.b ++ bq }) = R' := ⟨_, rfl⟩
  rw [hR]
  have HR := Lib.hid hR
  clear hR
  go_enter Tryz.func64, Tryz.ntmps64
  go_wp2_with fail
  refine (HFd.out _).mono ?_
  rintro E w3 ⟨rfl, hb3⟩
  clear HFd hbg
  go_upto_region 1 with fail
  have hB : Below w3.heap.size w3 ((w3.alloc (.cells #[.int .i64 0, .int .i64 0, .string ⟨#[]⟩, .int .i64 0] 26)).setRow w3.heap.size (kcs c1)) := below_row (ba1 w3 _) (Nat.le_refl _) _
  have h1 := (h.up hb3).up hB
  have hBu := But.of (g := g) (bon hb3 hB)
  have bk := box_row (kcs c1) (Box.new w3 26 #[.int .i64 0, .int .i64 0, .string ⟨#[]⟩, .int .i64 0])
  have HG3 : Hid (g < w3.heap.size) := Lib.hid (Nat.lt_of_lt_of_le h.bx.lt hb3.size)
  clear hB hb3 h
  obtain ⟨gk, hgk⟩ : ∃ k, w3.heap.size = k := ⟨_, rfl⟩
  rw [hgk] at h1 bk hBu HG3 ⊢
  clear hgk
  generalize (w3.alloc (.cells #[.int .i64 0, .int .i64 0, .string ⟨#[]⟩, .int .i64 0] 26)).setRow gk (kcs c1) = W1 at *
  by_cases her : er = 0
  case neg =>
    have HV : Hid (R' = failR R er) := Lib.hid (by rw [← HR.out, if_pos her])
    have t0 : (er != 0) = true := bne_iff_ne.2 her
    clear her bk hsh
    go_wp2_with fail
    refine (pfail_c R S O er S.A (mkF R.now.fs) g _ h1).mono ?_
    rintro E w4 ⟨rfl, S4, h4, hB4, hL4⟩
    go_wp2
    refine ⟨rfl, .tuple #[], end_unit rfl, ?_⟩
    rw [HV.out]
    exact IEnds.row h4 (hBu.on hB4) (loc_up hL4 hBu.size)
  case pos =>
    subst her
    have HV : Hid (R' = { R with ck := c1, b := R.b ++ bq }) := Lib.hid (by rw [← HR.out, if_neg (by simp)])
    clear HR
    have hbk : hpat W1 gk = some (.cells (kcs c1) 26 (0, 0)) := bk
    have hbg : hpat W1 g = some (.cells (pcs R S O) 75 (0, 0)) := h1.bx
    go_upto_region 4 with fail
    have h2 := h1.row0 (R' := { R with ck := c1 }) rfl
    have hB2 := but_row hBu (pcs { R with ck := c1 } S O)
    obtain ⟨R1, hR1⟩ : ∃ R1 : Rr, { R with ck := c1 } = R1 := ⟨_, rfl⟩
    have HB1 : Hid (R1.b = R.b) := Lib.hid (by rw [← hR1])
    have HE1 : Hid (R' = { R1 with b := R1.b ++ bq }) := Lib.hid (by rw [HV.out, ← hR1])
    have HN1 : Hid (R1.now = R.now) := Lib.hid (by rw [← hR1])
    rw [hR1] at h2 hB2
    rw [show W1.setRow g (pcs { R with ck := c1 } S O) = W1.setRow g (pcs R1 S O) by rw [hR1]]
    clear hbk hbg h1 hBu bk hR1 HV
    generalize W1.setRow g (pcs R1 S O) = W2 at *
    have c5 : W2.cell? ⟨g, 5, none⟩ = some (.string (tb R1.b)) := h2.bx.c 5 rfl
    have d5 : W2.frozen? ⟨g, 5, none⟩ = false := h2.bx.f 5
    have kadd := fun W => run_string_add_sum (P := Tryz.prog) W (tb R1.b) (tb bq) (by rw [tb_size, tb_size, HB1.out]; omega)
    have e1 : W2.setCell ⟨g, 5, none⟩ (.string (tb R1.b ++ tb bq)) = W2.setRow g (pcs { R1 with b := R1.b ++ bq } S O) := by rw [tb_app]; exact pset_b h2.bx _
    have HE2 := Lib.hid e1
    clear e1
    go_wp2
    refine ⟨rfl, .tuple #[], end_unit rfl, ?_⟩
    rw [HE2.out, HE1.out]
    exact IEnds.row (h2.row0 (R' := { R1 with b := R1.b ++ bq }) rfl) (but_row hB2 _) (by rw [← HN1.out]; exact loc_same _ _ _)
end Go.Proofs.YtdlihfbaepjliaaGreatDoor

/-
  The walks of message's own frameOf, beginBody, readHead and read.
-/
namespace Go.Proofs.YtdlihfbaepjliaaGreatDoor
open Go.RowKit
attribute [local go_sem ↓] exec_ldR exec_ldH exec_ldK exec_ldM exec_stR exec_stH exec_stK exec_stM exec_bdM exec_bsM
attribute [local go_sem] run_bdM run_bsM run_ldR run_ldH run_ldK run_ldM run_stR run_stH run_stK run_stM ldO_at stO_at rcs_size hcs_size kcs_size mca_size rcs_one hcs_one kcs_one mca_one rcs_oneN hcs_oneN kcs_oneN mca_oneN rcs_now rcs_ck mca_head hpat_drew hpat_new
attribute [local go_sem ↓] exec_stP exec_bdP
attribute [local go_sem] run_stP run_bdP pcs_size pcs_one pcs_oneN pcs_rd pcs_now pcs_ck pspl_now pspl_ck pspl_rd

theorem pfrq_c (H : Hd) (S : Sli) (W : World) (hF : Fs W S (mkF H.fs)) {a : Bool} (hr : rightB H a = true) : Calls Tryz.prog 130 #[.agg (hcs H S)] W (FrEnds (reqF (rightB H false) (frH (mkF H.fs) H.mi)) W) := by
  obtain ⟨b1, b2, b3, b4, b5⟩ := right_small hr
  have hl := hF.len
  rw [show (mkF H.fs).length = H.fs.length from List.length_map _] at hl
  have := frequest_any (tb H.m) (tb H.t) H.st (tb H.r) H.mi S.A S.n S.c (mkF H.fs) W (by rw [tb_size]; exact b1) (by rw [tb_size]; exact b2) (by rw [tb_size]; exact b3) hF (by omega) (few_of (by rw [dls_mkF]; exact b5))
  rw [hdOf_tb] at this
  exact this
theorem pfra_c (H : Hd) (S : Sli) (q : Bs) (W : World) (hF : Fs W S (mkF H.fs)) {a : Bool} (hr : rightB H a = true) : Calls Tryz.prog 129 #[.agg (hcs H S), .string (tb q)] W (FrEnds (ansF (rightB H true) (bareB H.st q) (frH (mkF H.fs) H.mi)) W) := by
  obtain ⟨b1, b2, b3, b4, b5⟩ := right_small hr
  have hl := hF.len
  rw [show (mkF H.fs).length = H.fs.length from List.length_map _] at hl
  have := fanswer_any (tb H.m) (tb H.t) H.st (tb H.r) H.mi S.A S.n S.c (mkF H.fs) W (by rw [tb_size]; exact b1) (by rw [tb_size]; exact b2) (by rw [tb_size]; exact b3) hF (by omega) (few_of (by rw [dls_mkF]; exact b5)) (tb q)
  rw [hdOf_tb, dl_tb] at this
  exact this
set_option maxRecDepth 100000 in
set_option maxHeartbeats 2000000 in
theorem pframe_c (R : Rr) (S O : Sli) (H : Hd) (S1 : Sli) (g : Nat) (w : World) (h : PS w g R S O) (hF : Fs w S1 (mkF H.fs)) {a : Bool} (hr : rightB H a = true) : Calls Tryz.prog 108 #[.pointer (some ⟨g, 0, none⟩), .agg (hcs H S1)] w (FrEnds (frameR H R.a R.q) w) := by
  obtain ⟨f, hf⟩ : ∃ f, frameR H R.a R.q = f := ⟨_, rfl⟩
  rw [hf]
  obtain ⟨fq, hfq⟩ : ∃ f, reqF (rightB H false) (frH (mkF H.fs) H.mi) = f := ⟨_, rfl⟩
  obtain ⟨fa, hfa⟩ : ∃ f, ansF (rightB H true) (bareB H.st R.q) (frH (mkF H.fs) H.mi) = f := ⟨_, rfl⟩
  have HReq : Hid (∀ W, Fs W S1 (mkF H.fs) → Calls Tryz.prog 130 #[.agg (hcs H S1)] W (FrEnds fq W)) := Lib.hid (fun W hW => by rw [← hfq]; exact pfrq_c H S1 W hW hr)
  have HAns : Hid (∀ W, Fs W S1 (mkF H.fs) → Calls Tryz.prog 129 #[.agg (hcs H S1), .string (tb R.q)] W (FrEnds fa W)) := Lib.hid (fun W hW => by rw [← hfa]; exact pfra_c H S1 R.q W hW hr)
  have HEr : Hid (f = if R.a = true then fa else fq) := Lib.hid (by rw [← hf]; unfold frameR; rw [hfa, hfq])
  clear hf hfq hfa hr
  have hb0 := ba2 w (.cells (hcs H S1) 29) (.cells #[.int .i64 0, .int .i64 0] 24)
  have bh := (Box.new w 29 (hcs H S1)).alloc (.cells #[.int .i64 0, .int .i64 0] 24)
  have bf := Box.mk' (w.alloc (.cells (hcs H S1) 29)) 24 #[.int .i64 0, .int .i64 0] (w.heap.size + 1) (by simp)
  have h0 := h.up hb0
  have hF0 := hF.up hb0
  have hgl := h.bx.lt
  go_enter Tryz.func108, Tryz.ntmps108
  go_upto_region 1 with fail
  obtain ⟨n, hn⟩ : ∃ n, w.heap.size = n := ⟨_, rfl⟩
  rw [hn] at bh bf hgl ⊢
  have HN := Lib.hid hn
  clear hn
  generalize (w.alloc (.cells (hcs H S1) 29)).alloc (.cells #[.int .i64 0, .int .i64 0] 24) = W0 at *
  have hbh : hpat W0 n = some (.cells (hcs H S1) 29 (0, 0)) := bh
  cases ha : R.a with
  | false =>
    have c0 : W0.cell? ⟨g, 0, none⟩ = some (.bool false) := by rw [← ha]; exact h0.bx.c 0 rfl
    have HV : Hid (f = fq) := Lib.hid (by rw [HEr.out, ha, if_neg (by decide)])
    clear HEr HAns ha
    go_wp2_with fail
    refine (HReq.out _ hF0).mono ?_
    rintro E w3 ⟨rfl, hb3⟩
    have bf3 := bf.up hb3
    obtain ⟨y0, y1, y2, y3⟩ := Fr2 bf3
    have HE := Lib.hid (rset_two bf3 (.int .i64 fq.1) (.int .i64 fq.2.1))
    have HB := Lib.hid (below_row (bon hb0 hb3) (g := n + 1) (by have := HN.out; omega) #[.int .i64 fq.1, .int .i64 fq.2.1])
    have q0 := (box_row #[.int .i64 fq.1, .int .i64 fq.2.1] bf3).c 0 (v := .int .i64 fq.1) rfl
    have q1 := (box_row #[.int .i64 fq.1, .int .i64 fq.2.1] bf3).c 1 (v := .int .i64 fq.2.1) rfl
    clear hbh c0 hb3 bh bf h0 hF0 h hF
    have HQ := Lib.hid (And.intro q0 q1)
    clear q0 q1
    go_wp2
    rw [HE.out]
    obtain ⟨q0, q1⟩ := HQ.out
    refine bodyPost_ret (v := .tuple #[.agg #[.int .i64 fq.1, .int .i64 fq.2.1], .int .i64 fq.2.2]) (by simp [results, Tryz.results108, go_sem, q0, q1]) rfl ?_
    rw [HV.out]
    exact ⟨rfl, HB.out⟩
  | true =>
    have c0 : W0.cell? ⟨g, 0, none⟩ = some (.bool true) := by rw [← ha]; exact h0.bx.c 0 rfl
    have c1 : W0.cell? ⟨g, 1, none⟩ = some (.string (tb R.q)) := h0.bx.c 1 rfl
    have HV : Hid (f = fa) := Lib.hid (by rw [HEr.out, ha, if_pos rfl])
    clear HEr HReq ha
    go_upto_region 2 with fail
    clear c0
    go_region_held3 (fun W' => hpat W' n = some (.cells (hcs H S1) 29 (0, 0)) ∧ W'.cell? ⟨g, 1, none⟩ = some (.string (tb R.q)))
      (first | exact ⟨hbh, c1⟩ | exact ⟨bh3, c13⟩ | (rw [rset_two bf3 _ _]; exact heldG (n + 1) _ (by omega) (by show g ≠ n + 1; omega) ⟨bh3, c13⟩) | fail)
      (first
        | (go_at_call 129; refine (HAns.out _ (hF0.up ((Below.refl W0.heap.size W0).drew))).mono ?_; rintro E w3 ⟨rfl, hb3⟩; have hd3 : Below W0.heap.size W0 w3 := bon ((Below.refl W0.heap.size W0).drew) hb3; have bh3 : Box w3 n 29 (hcs H S1) := bh.up hd3; have c13 : w3.cell? ⟨g, 1, none⟩ = some (.string (tb R.q)) := cell_up hd3 c1; have bf3 := bf.up hd3; obtain ⟨y0, y1, y2, y3⟩ := Fr2 bf3)
        | fail)
    rename_i hHeld
    have HE := Lib.hid (rset_two bf3 (.int .i64 fa.1) (.int .i64 fa.2.1))
    have HB := Lib.hid (below_row (bon hb0 hd3) (g := n + 1) (by have := HN.out; omega) #[.int .i64 fa.1, .int .i64 fa.2.1])
    have HQ := Lib.hid (And.intro ((box_row #[.int .i64 fa.1, .int .i64 fa.2.1] bf3).c 0 (v := .int .i64 fa.1) rfl) ((box_row #[.int .i64 fa.1, .int .i64 fa.2.1] bf3).c 1 (v := .int .i64 fa.2.1) rfl))
    clear hHeld hbh c1 c13 bh3 hb3 hd3 bh bf bf3 y0 y1 y2 y3 h0 hF0 h hF
    go_wp2
    rw [HE.out]
    obtain ⟨q0, q1⟩ := HQ.out
    refine bodyPost_ret (v := .tuple #[.agg #[.int .i64 fa.1, .int .i64 fa.2.1], .int .i64 fa.2.2]) (by simp [results, Tryz.results108, go_sem, q0, q1]) rfl ?_
    rw [HV.out]
    exact ⟨rfl, HB.out⟩
/-- a head is read (J2) -/
def beginR (r : Rr) (t : Bs) : Rr :=
  if (parseH t r.a).2 ≠ 0 then failR r (parseH t r.a).2
  else if (frameR (parseH t r.a).1 r.a r.q).2.2 ≠ 0 then failR r (frameR (parseH t r.a).1 r.a r.q).2.2
  else ⟨r.a, r.q, [], (frameR (parseH t r.a).1 r.a r.q).1, (frameR (parseH t r.a).1 r.a r.q).2.1, r.b, r.ck, (parseH t r.a).1, r.e⟩
theorem beginR_eq (r : Rr) : framedR r = beginR r (r.hd.take (r.hd.length - 4)) := rfl
set_option maxRecDepth 100000 in
set_option maxHeartbeats 2000000 in
theorem pbegin_c (R : Rr) (S O : Sli) (t : Bs) (g : Nat) (w : World) (h : PS w g R S O) (ht : t.length ≤ 4096) : Calls Tryz.prog 87 #[.pointer (some ⟨g, 0, none⟩), .string (tb t)] w (IEnds g O S.A (mkF R.now.fs) (beginR R t) w) := by
  obtain ⟨R', hR⟩ : ∃ R', beginR R t = R' := ⟨_, rfl⟩
  rw [hR]
  obtain ⟨p, hp⟩ : ∃ p, parseH t R.a = p := ⟨_, rfl⟩
  have HE : Hid (R' = if p.2 ≠ 0 then failR R p.2 else if (frameR p.1 R.a R.q).2.2 ≠ 0 then failR R (frameR p.1 R.a R.q).2.2 else ⟨R.a, R.q, [], (frameR p.1 R.a R.q).1, (frameR p.1 R.a R.q).2.1, R.b, R.ck, p.1, R.e⟩) := Lib.hid (by rw [← hR, ← hp]; rfl)
  have HSm : Hid (p.2 = 0 → rightB p.1 R.a = true) := Lib.hid (fun h => by rw [← hp] at h ⊢; exact (parse_right h).1)
  have HPar : Hid (Calls Tryz.prog 107 #[.string (tb t), .bool R.a] w (HdEnds p w)) := Lib.hid (by rw [← hp]; exact pparse_c t R.a w h.mx ht)
  have c0 : w.cell? ⟨g, 0, none⟩ = some (.bool R.a) := h.bx.c 0 rfl
  have hz := fun S => hcs_size p.1 S
  clear hR hp
  go_enter Tryz.func87, Tryz.ntmps87
  go_wp2_with fail
  refine HPar.out.mono ?_
  rintro E w2 ⟨S1, rfl, hF1, hfr1, hb2⟩
  go_upto_region 1 with fail
  have hB : Below w2.heap.size w2 ((w2.alloc (.cells #[.string ⟨#[]⟩, .string ⟨#[]⟩, .int .i64 0, .string ⟨#[]⟩, .int .i64 0, .slice none 0 0] 29)).setRow w2.heap.size (hcs p.1 S1)) := below_row (ba1 w2 _) (Nat.le_refl _) _
  have h1 := (h.up hb2).up hB
  have hBu := But.of (g := g) (bon hb2 hB)
  have bq := box_row (hcs p.1 S1) (Box.new w2 29 #[.string ⟨#[]⟩, .string ⟨#[]⟩, .int .i64 0, .string ⟨#[]⟩, .int .i64 0, .slice none 0 0])
  have hF2 : Fs ((w2.alloc (.cells #[.string ⟨#[]⟩, .string ⟨#[]⟩, .int .i64 0, .string ⟨#[]⟩, .int .i64 0, .slice none 0 0] 29)).setRow w2.heap.size (hcs p.1 S1)) S1 (mkF p.1.fs) := Fs.row (hF1.up (ba1 w2 _)) (fun hne ad hA => by have := hF1.lt hne hA; omega) _
  have HFr : Hid (∀ ad, S1.A = some ad → w.heap.size ≤ ad.block) := Lib.hid hfr1
  have HG : Hid (g < w.heap.size) := Lib.hid h.bx.lt
  have HG2 : Hid (g < w2.heap.size) := Lib.hid (Nat.lt_of_lt_of_le h.bx.lt hb2.size)
  clear hB hb2 h hF1 hfr1 c0 hz HPar
  obtain ⟨gq, hgq⟩ : ∃ k, w2.heap.size = k := ⟨_, rfl⟩
  rw [hgq] at h1 bq hBu hF2 HG2 ⊢
  clear hgq
  generalize (w2.alloc (.cells #[.string ⟨#[]⟩, .string ⟨#[]⟩, .int .i64 0, .string ⟨#[]⟩, .int .i64 0, .slice none 0 0] 29)).setRow gq (hcs p.1 S1) = W1 at *
  obtain ⟨H, er⟩ := p
  simp only at HE HSm bq hF2 ⊢
  by_cases her : er = 0
  case neg =>
    have HV : Hid (R' = failR R er) := Lib.hid (by rw [HE.out, if_pos her])
    have t0 : (er != 0) = true := bne_iff_ne.2 her
    clear her bq HE HSm hF2
    go_wp2_with fail
    refine (pfail_c R S O er S.A (mkF R.now.fs) g _ h1).mono ?_
    rintro E w4 ⟨rfl, S4, h4, hB4, hL4⟩
    go_wp2
    refine ⟨rfl, .tuple #[], end_unit rfl, ?_⟩
    rw [HV.out]
    exact IEnds.row h4 (hBu.on hB4) (loc_up hL4 hBu.size)
  case pos =>
    subst her
    have hrg := HSm.out rfl
    rw [if_neg (by simp)] at HE
    obtain ⟨f, hf⟩ : ∃ f, frameR H R.a R.q = f := ⟨_, rfl⟩
    have HFm : Hid (Calls Tryz.prog 108 #[.pointer (some ⟨g, 0, none⟩), .agg (hcs H S1)] W1 (FrEnds f W1)) := Lib.hid (by rw [← hf]; exact pframe_c R S O H S1 g W1 h1 hF2 hrg)
    rw [hf] at HE
    clear hf hrg HSm
    have hbq : hpat W1 gq = some (.cells (hcs H S1) 29 (0, 0)) := bq
    go_wp2_with fail
    refine HFm.out.mono ?_
    rintro E w3 ⟨rfl, hb3⟩
    go_upto_region 4 with fail
    have hd3 := bon hb3 (ba1 w3 (.cells #[.int .i64 f.1, .int .i64 f.2.1] 24))
    have h2 := h1.up hd3
    have bq2 := bq.up hd3
    have hF3 := hF2.up hd3
    have hBu2 := hBu.on (But.of (g := g) hd3)
    have bf := Box.new w3 24 #[.int .i64 f.1, .int .i64 f.2.1]
    have HGF : Hid (gq < w3.heap.size) := Lib.hid (Nat.lt_of_lt_of_le bq.lt hb3.size)
    obtain ⟨gf, hg⟩ : ∃ g, w3.heap.size = g := ⟨_, rfl⟩
    rw [hg] at bf HGF ⊢
    clear hg hd3 hb3 hbq h1 bq hF2 hBu HFm
    generalize w3.alloc (.cells #[.int .i64 f.1, .int .i64 f.2.1] 24) = w5 at *
    obtain ⟨f1, f2, f3⟩ := f
    simp only at HE bf ⊢
    by_cases hf0 : f3 = 0
    case neg =>
      have HV : Hid (R' = failR R f3) := Lib.hid (by rw [HE.out, if_pos hf0])
      have t0 : (f3 != 0) = true := bne_iff_ne.2 hf0
      clear hf0 bq2 HE hF3 bf
      go_wp2_with fail
      refine (pfail_c R S O f3 S.A (mkF R.now.fs) g _ h2).mono ?_
      rintro E w4 ⟨rfl, S4, h4, hB4, hL4⟩
      go_wp2
      refine ⟨rfl, .tuple #[], end_unit rfl, ?_⟩
      rw [HV.out]
      exact IEnds.row h4 (hBu2.on hB4) (loc_up hL4 hBu2.size)
    case pos =>
      subst hf0
      have HV : Hid (R' = ⟨R.a, R.q, [], f1, f2, R.b, R.ck, H, R.e⟩) := Lib.hid (by rw [HE.out, if_neg (by simp)])
      have hA0 : Away g S1.A (mkF H.fs) := fun _ ad hA => by have := HFr.out ad hA; have := HG.out; omega
      clear HE
      go_upto_region 6 with fail
      have hbq : hpat w5 gq = some (.cells (hcs H S1) 29 (0, 0)) := bq2
      obtain ⟨y0, y1, y2, y3⟩ := Fr2 bf
      have hbg : hpat w5 g = some (.cells (pcs R S O) 75 (0, 0)) := h2.bx
      have c2 : w5.cell? ⟨g, 2, none⟩ = some (.string (tb R.hd)) := h2.bx.c 2 rfl
      have d2 := h2.bx.f 2
      obtain ⟨R1, hR1⟩ : ∃ R1 : Rr, { R with hd := [] } = R1 := ⟨_, rfl⟩
      obtain ⟨R2, hR2⟩ : ∃ R2 : Rr, { R1 with now := H } = R2 := ⟨_, rfl⟩
      have hbd : Box w5.drew g 75 (pcs R S O) := h2.bx
      have e1 : w5.drew.setCell ⟨g, 2, none⟩ (.string ⟨#[]⟩) = w5.drew.setRow g (pcs R1 S O) := by rw [← hR1]; exact pset_hd hbd []
      have n1 : gq ≠ g := by have := HG2.out; omega
      have n2 : gf ≠ g := by have := HG2.out; have := HGF.out; omega
      have hbg1 : hpat (w5.drew.setRow g (pcs R1 S O)) g = some (.cells (pcs R1 S O) 75 (0, 0)) := box_row _ hbd
      have hbq1 : hpat (w5.drew.setRow g (pcs R1 S O)) gq = some (.cells (hcs H S1) 29 (0, 0)) := (row_heap _ _ _ gq n1).trans bq2
      have bf1 : Box (w5.drew.setRow g (pcs R1 S O)) gf 24 #[.int .i64 f1, .int .i64 f2] := (row_heap _ _ _ gf n2).trans bf
      obtain ⟨z0, z1, z2, z3⟩ := Fr2 bf1
      have bf2 : Box (w5.drew.setRow g (pcs R2 S1 O)) gf 24 #[.int .i64 f1, .int .i64 f2] := (row_heap _ _ _ gf n2).trans bf
      obtain ⟨v0, v1, v2, v3⟩ := Fr2 bf2
      have e2 : (w5.drew.setRow g (pcs R1 S O)).setRow g (pcs { R1 with now := H } S1 O) = w5.drew.setRow g (pcs R2 S1 O) := by rw [hR2, setRow_setRow]
      have hb2 : Box (w5.drew.setRow g (pcs R2 S1 O)) g 75 (pcs R2 S1 O) := box_row _ hbd
      have c3 : (w5.drew.setRow g (pcs R2 S1 O)).cell? ⟨g, 3, none⟩ = some (.int .i64 R2.k) := hb2.c 3 rfl
      have c4 : (w5.drew.setRow g (pcs R2 S1 O)).cell? ⟨g, 4, none⟩ = some (.int .i64 R2.z) := hb2.c 4 rfl
      have d3 := hb2.f 3
      have d4 := hb2.f 4
      have HR2 : Hid (({ { R2 with k := f1 } with z := f2 } : Rr) = R') := Lib.hid (by rw [HV.out, ← hR2, ← hR1])
      have HN2 : Hid (R2.now = H) := Lib.hid (by rw [← hR2])
      clear hR1 hR2 z2 z3 y2 y3 v2 v3
      go_region_law fail
      all_goals
        have e3 : ((w5.drew.setRow g (pcs R2 S1 O)).setCell ⟨g, 3, none⟩ (.int .i64 f1)).setCell ⟨g, 4, none⟩ (.int .i64 f2) = w5.drew.setRow g (pcs R' S1 O) := by
          rw [pset_k hb2, pset_z (box_row _ hb2), setRow_setRow, setRow_setRow, HR2.out]
        have hHN : R'.now = H := by rw [HV.out]
        have h6 : PS (w5.drew.setRow g (pcs R' S1 O)) g R' S1 O := (h2.up ((Below.refl w5.heap.size w5).drew)).row (R' := R') (S' := S1) (by rw [hHN]; exact hF3.up ((Below.refl w5.heap.size w5).drew)) (by rw [hHN]; exact hA0)
        have hB6 := but_row (hBu2.on (But.of (g := g) ((Below.refl w5.heap.size w5).drew))) (pcs R' S1 O)
        have HE3 := Lib.hid e3
        have HHN := Lib.hid hHN
        clear e1 e2 e3 hHN c2 d2 c3 c4 d3 d4 z0 z1 y0 y1 v0 v1 bf2 hbq hbg hbg1 hbq1 bf bf1 bq2 hbd hb2 h2
        go_wp2
        refine ⟨rfl, .tuple #[], end_unit rfl, ?_⟩
        rw [HE3.out]
        exact IEnds.row h6 hB6 (by rw [HHN.out]; exact fun ad hA => .inl (HFr.out ad hA))
end Go.Proofs.YtdlihfbaepjliaaGreatDoor
