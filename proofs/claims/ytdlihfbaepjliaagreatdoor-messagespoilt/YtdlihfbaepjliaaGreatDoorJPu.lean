/-
  The walks of message's own Right, slices.Clone at fields, own and Feed.
-/
import Derived.Test.YtdlihfbaepjliaaGreatDoorJPr
import Derived.Lib.SliceRun
import Derived.Test.YtdlihfbaepjliaaGreatDoorJMc
namespace Go.Proofs.YtdlihfbaepjliaaGreatDoor
open Go.RowKit
attribute [local go_sem ↓] exec_ldR exec_ldH exec_ldK exec_ldM exec_stR exec_stH exec_stK exec_stM exec_bdM exec_bsM
attribute [local go_sem] run_bdM run_bsM run_ldR run_ldH run_ldK run_ldM run_stR run_stH run_stK run_stM ldO_at stO_at rcs_size hcs_size kcs_size mca_size rcs_one hcs_one kcs_one mca_one rcs_oneN hcs_oneN kcs_oneN mca_oneN rcs_now rcs_ck mca_head hpat_drew hpat_new
attribute [local go_sem ↓] exec_stP exec_bdP
attribute [local go_sem] run_stP run_bdP pcs_size pcs_one pcs_oneN pcs_rd pcs_now pcs_ck pspl_now pspl_ck pspl_rd
attribute [local go_sem ↓] exec_eqK
attribute [local go_sem] run_eqK

set_option maxRecDepth 100000 in
set_option maxHeartbeats 4000000 in
theorem pright9_c (R : Rr) (S : Sli) (w : World) (hF : Fs w S (mkF R.now.fs)) (hS : SmR R) : Calls Tryz.prog 27 #[.agg (rcs R S)] w (BoolEnds (decide (okR R)) w) := by
  obtain ⟨B, hB⟩ : ∃ B, decide (okR R) = B := ⟨_, rfl⟩
  rw [hB]
  have HB : Hid (B = decide (okR R)) := Lib.hid hB.symm
  clear hB
  have hb0 := ba1 w (.cells (rcs R S) 32)
  have bv := Box.new w 32 (rcs R S)
  have c0 : (w.alloc (.cells (rcs R S) 32)).cell? ⟨w.heap.size, 0, none⟩ = some (.bool R.a) := bv.c 0 rfl
  have c2 : (w.alloc (.cells (rcs R S) 32)).cell? ⟨w.heap.size, 2, none⟩ = some (.string (tb R.hd)) := bv.c 2 rfl
  have c3 : (w.alloc (.cells (rcs R S) 32)).cell? ⟨w.heap.size, 3, none⟩ = some (.int .i64 R.k) := bv.c 3 rfl
  have c4 : (w.alloc (.cells (rcs R S) 32)).cell? ⟨w.heap.size, 4, none⟩ = some (.int .i64 R.z) := bv.c 4 rfl
  have c5 : (w.alloc (.cells (rcs R S) 32)).cell? ⟨w.heap.size, 5, none⟩ = some (.string (tb R.b)) := bv.c 5 rfl
  have ce : (w.alloc (.cells (rcs R S) 32)).cell? ⟨w.heap.size, 16, none⟩ = some (.int .i64 R.e) := bv.c 16 rfl
  have HBo : Hid (∀ W, Below w.heap.size w W → Calls Tryz.prog 41 #[.agg (rcs R S)] W (BoolEnds (decide (R.b = [] ∧ ckZ R.ck ∧ hdZ R.now)) W)) := Lib.hid (fun W hW => pbody_c R S W (hF.up hW))
  obtain ⟨db, hdb⟩ : ∃ b, decide (R.b = [] ∧ ckZ R.ck ∧ hdZ R.now) = b := ⟨_, rfl⟩
  rw [hdb] at HBo
  have HDB : Hid (db = true ↔ R.b = [] ∧ ckZ R.ck ∧ hdZ R.now) := Lib.hid (by rw [← hdb, decide_eq_true_eq])
  clear hdb
  have hbx : Hid (Box (w.alloc (.cells (rcs R S) 32)) w.heap.size 32 (rcs R S)) := Lib.hid bv
  by_cases he : R.e = 0
  case neg =>
    have heb : (R.e != 0) = true := bne_iff_ne.2 he
    have HO : Hid (okR R ↔ R.hd = [] ∧ R.b = [] ∧ R.k = 0 ∧ R.z = 0 ∧ ckZ R.ck ∧ hdZ R.now) := Lib.hid (by unfold okR; rw [if_pos he])
    clear he hS hF bv
    by_cases q1 : R.hd = []
    case neg =>
      have g1 := tb_ne q1
      have HV : Hid (B = false) := Lib.hid (by rw [HB.out]; exact decide_eq_false (fun h => q1 (HO.out.1 h).1))
      clear q1
      go_enter Tryz.func27, Tryz.ntmps27
      go_wp2
      go_ret
      exact ⟨ret_bool HV.out.symm, hb0⟩
    case pos =>
      have g1 := tb_em q1
      have Q1 := Lib.hid q1
      clear q1
      by_cases q2 : R.k = 0
      case neg =>
        have HV : Hid (B = false) := Lib.hid (by rw [HB.out]; exact decide_eq_false (fun h => q2 (HO.out.1 h).2.2.1))
        go_enter Tryz.func27, Tryz.ntmps27
        go_wp2
        go_ret
        exact ⟨ret_bool HV.out.symm, hb0⟩
      case pos =>
        rw [q2] at c3
        have Q2 := Lib.hid q2
        clear q2
        by_cases q3 : R.z = 0
        case neg =>
          have HV : Hid (B = false) := Lib.hid (by rw [HB.out]; exact decide_eq_false (fun h => q3 (HO.out.1 h).2.2.2.1))
          go_enter Tryz.func27, Tryz.ntmps27
          go_wp2
          go_ret
          exact ⟨ret_bool HV.out.symm, hb0⟩
        case pos =>
          rw [q3] at c4
          have HV : Hid (B = db) := Lib.hid (by
            rw [HB.out, Bool.eq_iff_iff, decide_eq_true_eq, HO.out, HDB.out]
            exact ⟨fun h => ⟨h.2.1, h.2.2.2.2.1, h.2.2.2.2.2⟩, fun h => ⟨Q1.out, h.1, Q2.out, q3, h.2.1, h.2.2⟩⟩)
          clear q3
          go_enter Tryz.func27, Tryz.ntmps27
          go_wp2_with fail
          refine (HBo.out _ hb0).mono ?_
          rintro E w2 ⟨rfl, hb2⟩
          go_wp2
          go_ret
          exact ⟨ret_bool HV.out.symm, bon hb0 hb2⟩
  case pos =>
    rw [he] at ce
    by_cases hk : R.k = 0
    case pos =>
      have HO : Hid (okR R ↔ R.z = 0 ∧ R.b = [] ∧ ckZ R.ck ∧ hdZ R.now ∧ R.hd.length ≤ 2003 ∧ ends4 R.hd = false) := Lib.hid (by unfold okR; rw [if_neg (by simp [he]), if_pos hk])
      rw [hk] at c3
      have HPt := Lib.hid (fun W => ppart_c R.hd (Nat.le_trans hS.hd (by decide)) W)
      obtain ⟨pb, hpb⟩ : ∃ b, (decide (R.hd.length ≤ 2003) && !ends4 R.hd) = b := ⟨_, rfl⟩
      rw [hpb] at HPt
      have HPB : Hid (pb = true ↔ R.hd.length ≤ 2003 ∧ ends4 R.hd = false) := Lib.hid (by rw [← hpb]; simp)
      clear hpb he hk hS hF bv
      go_enter Tryz.func27, Tryz.ntmps27
      go_wp2_with fail
      refine (HPt.out _).mono ?_
      rintro E w2 ⟨rfl, rfl⟩
      cases pb with
      | false =>
        have HV : Hid (B = false) := Lib.hid (by rw [HB.out]; exact decide_eq_false (fun h => by have := HPB.out.2 (HO.out.1 h).2.2.2.2; cases this))
        go_wp2
        go_ret
        exact ⟨ret_bool HV.out.symm, hb0⟩
      | true =>
        by_cases q3 : R.z = 0
        case neg =>
          have q3b : (R.z == 0) = false := beq_eq_false_iff_ne.2 q3
          have HV : Hid (B = false) := Lib.hid (by rw [HB.out]; exact decide_eq_false (fun h => q3 (HO.out.1 h).1))
          clear q3
          go_wp2
          go_ret
          exact ⟨ret_bool HV.out.symm, hb0⟩
        case pos =>
          rw [q3] at c4
          have HV : Hid (B = db) := Lib.hid (by
            rw [HB.out, Bool.eq_iff_iff, decide_eq_true_eq, HO.out, HDB.out]
            exact ⟨fun h => ⟨h.2.1, h.2.2.1, h.2.2.2.1⟩, fun h => ⟨q3, h.1, h.2.1, h.2.2, HPB.out.1 rfl⟩⟩)
          clear q3
          go_wp2_with fail
          refine (HBo.out _ hb0).mono ?_
          rintro E w2 ⟨rfl, hb2⟩
          go_wp2
          go_ret
          exact ⟨ret_bool HV.out.symm, bon hb0 hb2⟩
    case neg =>
      have hkb : (R.k == 0) = false := beq_eq_false_iff_ne.2 hk
      have HO : Hid (okR R ↔ R.hd = [] ∧ rightB R.now R.a = true ∧ R.b.length ≤ 4000 ∧ okF R) := Lib.hid (by unfold okR okF; rw [if_neg (by simp [he]), if_neg hk])
      have HHr := Lib.hid (phright_c R.now S R.a (w.alloc (.cells (rcs R S) 32)) (hF.up hb0) hS.m hS.t hS.r hS.n hS.fs)
      obtain ⟨rb, hrb⟩ : ∃ b, rightB R.now R.a = b := ⟨_, rfl⟩
      rw [hrb] at HHr HO
      have HFo := Lib.hid (fun W => pframeOk_c R S W)
      obtain ⟨fb, hfb⟩ : ∃ b, decide (okF R) = b := ⟨_, rfl⟩
      rw [hfb] at HFo
      have HFB : Hid (fb = true ↔ okF R) := Lib.hid (by rw [← hfb, decide_eq_true_eq])
      have hs : (tb R.b).size = R.b.length := tb_size _
      have HS := Lib.hid hs
      clear hrb hfb he hk hS hF bv hs HBo HDB
      by_cases q1 : R.hd = []
      case neg =>
        have g1 := tb_ne q1
        have HV : Hid (B = false) := Lib.hid (by rw [HB.out]; exact decide_eq_false (fun h => q1 (HO.out.1 h).1))
        clear q1
        go_enter Tryz.func27, Tryz.ntmps27
        go_wp2
        go_ret
        exact ⟨ret_bool HV.out.symm, hb0⟩
      case pos =>
        have g1 := tb_em q1
        have Q1 := Lib.hid q1
        clear q1
        go_enter Tryz.func27, Tryz.ntmps27
        go_wp2_with fail
        refine HHr.out.mono ?_
        rintro E w2 ⟨rfl, hb2⟩
        have hd2 := bon hb0 hb2
        have c52 := cell_up hb2 c5
        have hbg : hpat w2 w.heap.size = some (.cells (rcs R S) 32 (0, 0)) := hbx.out.up hb2
        clear c0 c2 c3 c4 c5 ce HHr hb2 hb0
        cases rb with
        | false =>
          have HV : Hid (B = false) := Lib.hid (by rw [HB.out]; exact decide_eq_false (fun h => by have := (HO.out.1 h).2.1; cases this))
          go_wp2
          go_ret
          exact ⟨ret_bool HV.out.symm, hd2⟩
        | true =>
          by_cases q2 : ((tb R.b).size : Int) ≤ 4000
          case neg =>
            have HV : Hid (B = false) := Lib.hid (by rw [HB.out]; exact decide_eq_false (fun h => q2 (by rw [HS.out]; have := (HO.out.1 h).2.2.1; omega)))
            go_wp2
            go_ret
            exact ⟨ret_bool HV.out.symm, hd2⟩
          case pos =>
            have HV : Hid (B = fb) := Lib.hid (by
              rw [HB.out, Bool.eq_iff_iff, decide_eq_true_eq, HO.out, HFB.out]
              exact ⟨fun h => h.2.2.2, fun h => ⟨Q1.out, rfl, by rw [HS.out] at q2; omega, h⟩⟩)
            go_wp2_with fail
            refine (HFo.out _).mono ?_
            rintro E w3 ⟨rfl, hb3⟩
            go_wp2
            go_ret
            exact ⟨ret_bool HV.out.symm, bon hd2 hb3⟩
theorem row_zeroF (w : World) (B : Nat) (hB : B ≤ w.heap.size) : (w.alloc (.cells #[] 40)).ownsRow B 40 2 (.slice (some ⟨w.heap.size, 0, none⟩) 0 0) 0 [] :=
  ⟨rfl, .inr ⟨w.heap.size, 0, #[], rfl, hB, Box.new w 40 #[], Nat.le_refl _, Nat.zero_le _, rfl, rfl⟩⟩
/-- fields of new memory -/
def ClEnds (fs : List Fd) (w : World) (e : Ending) (w' : World) : Prop := ∃ s : Sli, e = .returned (.slice s.A s.n s.c) ∧ Fs w' s fs ∧ Fresh w s ∧ Below w.heap.size w w'
set_option maxRecDepth 100000 in
set_option maxHeartbeats 2000000 in
theorem clone_c (s : Sli) (fs : List Fd) (w : World) (hF : Fs w s fs) (hn : s.n ≤ 1000000) : Calls Tryz.prog 62 #[.slice s.A s.n s.c] w (ClEnds fs w) := by
  obtain ⟨A, n, c⟩ := s
  have hl := hF.len
  have hcap := hF.cap
  have hle := hF.le
  simp only at hl hcap hn hle ⊢
  obtain ⟨i0, hi, hz0, hz1, hz2⟩ := info_parts info32
  cases A with
  | none =>
    have hc := hcap rfl
    subst hc
    have h0 : n = 0 := by omega
    subst h0
    have hx : fs = [] := List.eq_nil_of_length_eq_zero hl
    subst hx
    have he := fun W => Lib.run_eql_slice_nil (P := Tryz.prog) W 27 40 none 0 0 0 0 Tryz.underlying27
    clear hF hcap hl hle
    go_enter Tryz.func62, Tryz.ntmps62
    go_wp2
    go_ret
    exact ⟨⟨none, 0, 0⟩, rfl, fs_zero _, (fun _ h => by cases h), Below.refl _ _⟩
  | some ad =>
    have HSrc : Hid (Src (w.alloc (.cells #[] 40)) 2 (some ad) n c (fvs fs)) := Lib.hid ((hF.rd.up (ba1 w _)).src (by decide) (by rw [fvs_len, hl]) (fun h => by cases h))
    have HZ := Lib.hid (row_zeroF w w.heap.size (Nat.le_refl _))
    have hBw : w.heap.size ≤ (w.alloc (.cells #[] 40)).heap.size := (ba1 w _).size
    clear hF hl hcap hle
    have he := fun W => Lib.run_eql_slice_nil (P := Tryz.prog) W 27 40 (some ad) n c 0 0 Tryz.underlying27
    go_enter Tryz.func62, Tryz.ntmps62
    go_wp2_with (at_builtin; refine wpList_app _ rfl _ _ 27 rfl w.heap.size 40 i0 _ 2 32 (by decide) Tryz.underlying27 hi hz0 hz1 hz2 rfl (.slice (some ⟨w.heap.size, 0, none⟩) 0 0) 0 [] rfl HZ.out (some ad) n c (fvs fs) rfl HSrc.out (fvs_one _) ?_ ?_ hBw n (Nat.zero_add _) ?_; (unfold maxLen; omega); omega; intro A' c' w' h1 h2 h3; refine Hid.out ?_)
    have HB : Hid (Below w.heap.size w w') := Lib.hid (grown_base HZ.out h2 (ba1 w _) (Nat.le_refl _) hBw)
    have HR : Hid (Row w' w.heap.size 40 2 ⟨A', n, c'⟩ (fvs fs)) := Lib.hid h1
    clear h1 h2 h3 HSrc HZ
    refine Lib.hid ?_
    go_wp2
    go_ret
    exact ⟨⟨A', n, c'⟩, rfl, HR.out.fs, HR.out.base, HB.out⟩
/-- the same head, its fields in new memory -/
def OwEnds (H : Hd) (w : World) (E : Ending) (w' : World) : Prop := ∃ S : Sli, E = .returned (.agg (hcs H S)) ∧ Fs w' S (mkF H.fs) ∧ Fresh w S ∧ Below w.heap.size w w'
theorem res_head {fn : Func} {tmps : Array Value} {w : World} {i g : Nat} {H : Hd} {S : Sli} (hf : fn.results = #[.cell i 29]) (ht : tmps[i]?.getD undef = .pointer (some ⟨g, 0, none⟩)) (hb : Box w g 29 (hcs H S)) : (results fn tmps).run Tryz.prog w = .ok (.agg (hcs H S)) w := by
  have hl := loadH hb
  unfold results
  rw [hf]
  simp [ht, asAddr, hl]
set_option maxRecDepth 100000 in
set_option maxHeartbeats 2000000 in
theorem pown_c (H : Hd) (S : Sli) (w : World) (hF : Fs w S (mkF H.fs)) (hn : S.n ≤ 1000000) : Calls Tryz.prog 38 #[.agg (hcs H S)] w (OwEnds H w) := by
  have hb0 := ba2 w (.cells (hcs H S) 29) (.cells #[.string ⟨#[]⟩, .string ⟨#[]⟩, .int .i64 0, .string ⟨#[]⟩, .int .i64 0, .slice none 0 0] 29)
  have bh := (Box.new w 29 (hcs H S)).alloc (.cells #[.string ⟨#[]⟩, .string ⟨#[]⟩, .int .i64 0, .string ⟨#[]⟩, .int .i64 0, .slice none 0 0] 29)
  have br := Box.mk' (w.alloc (.cells (hcs H S) 29)) 29 #[.string ⟨#[]⟩, .string ⟨#[]⟩, .int .i64 0, .string ⟨#[]⟩, .int .i64 0, .slice none 0 0] (w.heap.size + 1) (by simp)
  have hF0 := hF.up hb0
  clear hF
  go_enter Tryz.func38, Tryz.ntmps38
  go_upto_region 1 with fail
  obtain ⟨g, hg⟩ : ∃ g, w.heap.size = g := ⟨_, rfl⟩
  rw [hg] at bh br ⊢
  have HG := Lib.hid hg
  clear hg
  generalize (w.alloc (.cells (hcs H S) 29)).alloc (.cells #[.string ⟨#[]⟩, .string ⟨#[]⟩, .int .i64 0, .string ⟨#[]⟩, .int .i64 0, .slice none 0 0] 29) = W0 at *
  have c5 : W0.cell? ⟨g, 5, none⟩ = some (.slice S.A S.n S.c) := bh.c 5 rfl
  have HCl := Lib.hid (clone_c S (mkF H.fs) W0 hF0 hn)
  go_wp2_with fail
  refine HCl.out.mono ?_
  rintro E w2 ⟨S2, rfl, hF2, hfr2, hb2⟩
  have bh2 := bh.up hb2
  have br2 := br.up hb2
  have hd2 := bon hb0 hb2
  have c52 : w2.cell? ⟨g, 5, none⟩ = some (.slice S.A S.n S.c) := bh2.c 5 rfl
  have d52 := bh2.f 5
  have hsz : W0.heap.size ≥ g + 2 := by have := br.lt; omega
  have HS2 : Hid (∀ ad, S2.A = some ad → g + 2 ≤ ad.block) := Lib.hid (fun ad hA => by have := hfr2 ad hA; omega)
  clear HCl c5 hb2 bh br hb0 hF0 hfr2 hsz
  go_upto_region 2 with fail
  have e1 : w2.setCell ⟨g, 5, none⟩ (.slice S2.A S2.n S2.c) = w2.setRow g (hcs H S2) := bh2.row_eq 5 _ rfl
  rw [e1]
  have hbg : hpat (w2.setRow g (hcs H S2)) g = some (.cells (hcs H S2) 29 (0, 0)) := box_row _ bh2
  have br3 := br2.row_far (g := g) (by omega) (hcs H S2)
  have hbr : hpat (w2.setRow g (hcs H S2)) (g + 1) = some (.cells #[.string ⟨#[]⟩, .string ⟨#[]⟩, .int .i64 0, .string ⟨#[]⟩, .int .i64 0, .slice none 0 0] 29 (0, 0)) := br3
  have HF3 := Lib.hid (Fs.row (Fs.row hF2 (g := g) (fun _ ad hA => by have := HS2.out ad hA; omega) (hcs H S2)) (g := g + 1) (fun _ ad hA => by have := HS2.out ad hA; omega) (hcs H S2))
  have HB3 := Lib.hid (below_row (below_row hd2 (g := g) (by have := HG.out; omega) (hcs H S2)) (g := g + 1) (by have := HG.out; omega) (hcs H S2))
  have HBR := Lib.hid (box_row (hcs H S2) br3)
  clear e1 c52 d52 hF2 hd2 bh2 br2 br3
  generalize w2.setRow g (hcs H S2) = W3 at *
  go_wp2
  refine bodyPost_ret (res_head (i := 2) (g := g + 1) (H := H) (S := S2) Tryz.results38 rfl HBR.out) rfl ?_
  exact ⟨S2, rfl, HF3.out, fun ad hA => by have := HS2.out ad hA; have := HG.out; omega, HB3.out⟩
end Go.Proofs.YtdlihfbaepjliaaGreatDoor

/-
  The walks of End: the document's own and message's own.
-/
namespace Go.Proofs.YtdlihfbaepjliaaGreatDoor
open Go.RowKit
theorem zM_one : (#[.string ⟨#[]⟩, .string ⟨#[]⟩, .int .i64 0, .string ⟨#[]⟩, .int .i64 0, .slice none 0 0, .string ⟨#[]⟩] : Array Value).all (fun x => x.oneCell') 0 7 = true := by simp [Value.oneCell']
theorem zM_size : (#[.string ⟨#[]⟩, .string ⟨#[]⟩, .int .i64 0, .string ⟨#[]⟩, .int .i64 0, .slice none 0 0, .string ⟨#[]⟩] : Array Value).size = 7 := rfl
attribute [local go_sem ↓] exec_ldR exec_ldH exec_ldK exec_ldM exec_stR exec_stH exec_stK exec_stM exec_bdM exec_bsM
attribute [local go_sem] run_bdM run_bsM run_ldR run_ldH run_ldK run_ldM run_stR run_stH run_stK run_stM ldO_at stO_at rcs_size hcs_size kcs_size mca_size rcs_one hcs_one kcs_one mca_one rcs_oneN hcs_oneN kcs_oneN mca_oneN rcs_now rcs_ck mca_head hpat_drew hpat_new
attribute [local go_sem ↓] exec_stP exec_bdP
attribute [local go_sem] run_stP run_bdP pcs_size pcs_one pcs_oneN pcs_rd pcs_now pcs_ck pspl_now pspl_ck pspl_rd
attribute [local go_sem] zM_one zM_size

theorem loadMs {w : World} {g : Nat} {cs : Array Value} (h : Box w g 49 cs) (hs : cs.size = 7) : (loadVar 49 ⟨g, 0, none⟩).run Tryz.prog w = .ok (.agg cs) w :=
  loadM h 49 0 cs (fun j v hj => by rw [Nat.zero_add, ← Array.getElem?_toList]; exact hj) isRowM (by rw [hs]; exact infoM)
theorem res_3M {fn : Func} {tmps : Array Value} {w : World} {i j l g : Nat} {cs : Array Value} (hf : fn.results = #[.cell i 49, .tmp j, .tmp l]) (ht : tmps[i]?.getD undef = .pointer (some ⟨g, 0, none⟩)) (hb : Box w g 49 cs) (hs : cs.size = 7) {u v : Value} (hu : tmps[j]?.getD undef = u) (hv : tmps[l]?.getD undef = v) : (results fn tmps).run Tryz.prog w = .ok (.tuple #[.agg cs, u, v]) w := by
  have hl := loadMs hb hs
  unfold results
  rw [hf]
  simp [ht, asAddr, hl, hu, hv]
theorem heldEn {W : World} {g : Nat} {R : Rr} {S : Sli} (h : Box W g 32 (rcs R S)) : ldO 6 10 (hpat W g) = some (hcs R.now S) ∧ W.cell? ⟨g, 5, none⟩ = some (.string (tb R.b)) := by
  refine ⟨?_, h.c 5 rfl⟩
  rw [show hpat W g = some (.cells (rcs R S) 32 (0, 0)) from h, ldO_at, rcs_size, if_pos (by decide), if_neg (by decide), rcs_now]
set_option maxRecDepth 100000 in
set_option maxHeartbeats 4000000 in
theorem rend9_c (R : Rr) (S : Sli) (w : World) (hF : Fs w S (mkF R.now.fs)) (hS : SmR R) : Calls Tryz.prog 28 #[.agg (rcs R S)] w (End9Ends (endR R) w) := by
  obtain ⟨Z, hZ⟩ : ∃ Z, endR R = Z := ⟨_, rfl⟩
  rw [hZ]
  have HZ : Hid (Z = if ¬ okR R then (Mg.zero, false, 1) else if R.e ≠ 0 then (Mg.zero, false, R.e) else if R.k = 4 then (⟨R.now, R.b⟩, true, 0) else if R.k = 0 ∧ R.hd = [] then (Mg.zero, false, 0) else (Mg.zero, false, 22)) := Lib.hid (by rw [← hZ]; rfl)
  clear hZ
  have hSn : S.n ≤ 1000000 := by
    have h1 := hF.len
    rw [show (mkF R.now.fs).length = R.now.fs.length from List.length_map _] at h1
    have := hS.n
    omega
  have hb0 := ba2 w (.cells (rcs R S) 32) (.cells #[.string ⟨#[]⟩, .string ⟨#[]⟩, .int .i64 0, .string ⟨#[]⟩, .int .i64 0, .slice none 0 0, .string ⟨#[]⟩] 49)
  have bv := (Box.new w 32 (rcs R S)).alloc (.cells #[.string ⟨#[]⟩, .string ⟨#[]⟩, .int .i64 0, .string ⟨#[]⟩, .int .i64 0, .slice none 0 0, .string ⟨#[]⟩] 49)
  have br := Box.mk' (w.alloc (.cells (rcs R S) 32)) 49 #[.string ⟨#[]⟩, .string ⟨#[]⟩, .int .i64 0, .string ⟨#[]⟩, .int .i64 0, .slice none 0 0, .string ⟨#[]⟩] (w.heap.size + 1) (by simp)
  have hF0 := hF.up hb0
  have hF9 := Lib.hid (fun (hne : mkF R.now.fs ≠ []) {ad : Addr} (hA : S.A = some ad) => hF.lt hne hA)
  clear hF
  go_enter Tryz.func28, Tryz.ntmps28
  go_upto_region 1 with fail
  obtain ⟨g, hg⟩ : ∃ g, w.heap.size = g := ⟨_, rfl⟩
  rw [hg] at bv br ⊢
  have HGW := Lib.hid hg
  clear hg
  generalize (w.alloc (.cells (rcs R S) 32)).alloc (.cells #[.string ⟨#[]⟩, .string ⟨#[]⟩, .int .i64 0, .string ⟨#[]⟩, .int .i64 0, .slice none 0 0, .string ⟨#[]⟩] 49) = W0 at *
  have hbg : hpat W0 g = some (.cells (rcs R S) 32 (0, 0)) := bv
  have HRt := Lib.hid (rright9_c R S W0 hF0 hS)
  clear hS
  go_wp2_with fail
  refine HRt.out.mono ?_
  rintro E W2 ⟨rfl, hb2⟩
  have bv2 := bv.up hb2
  have br2 := br.up hb2
  have hd2 := bon hb0 hb2
  have hF2 := hF0.up hb2
  clear HRt bv br hb0 hF0 hb2 hbg
  by_cases hok : okR R
  case neg =>
    have HV : Hid (Z = (Mg.zero, false, 1)) := Lib.hid (by rw [HZ.out, if_pos hok])
    rw [decide_eq_false hok]
    clear hok HZ
    have hbr : hpat W2 (g + 1) = some (.cells #[.string ⟨#[]⟩, .string ⟨#[]⟩, .int .i64 0, .string ⟨#[]⟩, .int .i64 0, .slice none 0 0, .string ⟨#[]⟩] 49 (0, 0)) := br2
    have HBR := Lib.hid (box_row #[.string ⟨#[]⟩, .string ⟨#[]⟩, .int .i64 0, .string ⟨#[]⟩, .int .i64 0, .slice none 0 0, .string ⟨#[]⟩] br2)
    have HB := Lib.hid (below_row hd2 (g := g + 1) (by have := HGW.out; omega) #[.string ⟨#[]⟩, .string ⟨#[]⟩, .int .i64 0, .string ⟨#[]⟩, .int .i64 0, .slice none 0 0, .string ⟨#[]⟩])
    clear br2 bv2 hd2 hF2
    go_wp2
    refine bodyPost_ret (res_3M (i := 2) (j := 3) (l := 4) (g := g + 1) (cs := #[.string ⟨#[]⟩, .string ⟨#[]⟩, .int .i64 0, .string ⟨#[]⟩, .int .i64 0, .slice none 0 0, .string ⟨#[]⟩]) Tryz.results28 rfl HBR.out rfl rfl rfl) rfl ?_
    rw [HV.out]
    exact ⟨⟨none, 0, 0⟩, rfl, fs_zero _, HB.out⟩
  case pos =>
    rw [decide_eq_true hok]
    rw [if_neg (fun h => h hok)] at HZ
    clear hok
    have ce : W2.cell? ⟨g, 16, none⟩ = some (.int .i64 R.e) := bv2.c 16 rfl
    by_cases he : R.e = 0
    case neg =>
      have HV : Hid (Z = (Mg.zero, false, R.e)) := Lib.hid (by rw [HZ.out, if_pos he])
      have heb : (R.e != 0) = true := bne_iff_ne.2 he
      have c16 : W2.drew.cell? ⟨g, 16, none⟩ = some (.int .i64 R.e) := ce
      have hbd : Box (W2.drew.setRow (g + 1) #[.string ⟨#[]⟩, .string ⟨#[]⟩, .int .i64 0, .string ⟨#[]⟩, .int .i64 0, .slice none 0 0, .string ⟨#[]⟩]) g 32 (rcs R S) := bv2.row_far (w := W2.drew) (by omega) _
      have c17 : (W2.drew.setRow (g + 1) #[.string ⟨#[]⟩, .string ⟨#[]⟩, .int .i64 0, .string ⟨#[]⟩, .int .i64 0, .slice none 0 0, .string ⟨#[]⟩]).cell? ⟨g, 16, none⟩ = some (.int .i64 R.e) := hbd.c 16 rfl
      have hbr : hpat W2 (g + 1) = some (.cells #[.string ⟨#[]⟩, .string ⟨#[]⟩, .int .i64 0, .string ⟨#[]⟩, .int .i64 0, .slice none 0 0, .string ⟨#[]⟩] 49 (0, 0)) := br2
      have HBR := Lib.hid (box_row (w := W2.drew) #[.string ⟨#[]⟩, .string ⟨#[]⟩, .int .i64 0, .string ⟨#[]⟩, .int .i64 0, .slice none 0 0, .string ⟨#[]⟩] br2)
      have HB := Lib.hid (below_row (bon hd2 ((Below.refl W2.heap.size W2).drew)) (g := g + 1) (by have := HGW.out; omega) #[.string ⟨#[]⟩, .string ⟨#[]⟩, .int .i64 0, .string ⟨#[]⟩, .int .i64 0, .slice none 0 0, .string ⟨#[]⟩])
      clear he HZ br2 bv2 hd2 hF2 hbd
      go_upto_region 4 with fail
      go_region_held3 (fun W' => W'.cell? ⟨g, 16, none⟩ = some (.int .i64 R.e)) (first | exact c16 | exact c17 | fail) (fail)
      go_wp2
      refine bodyPost_ret (res_3M (i := 2) (j := 3) (l := 4) (g := g + 1) (cs := #[.string ⟨#[]⟩, .string ⟨#[]⟩, .int .i64 0, .string ⟨#[]⟩, .int .i64 0, .slice none 0 0, .string ⟨#[]⟩]) Tryz.results28 rfl HBR.out rfl rfl rfl) rfl ?_
      rw [HV.out]
      exact ⟨⟨none, 0, 0⟩, rfl, fs_zero _, HB.out⟩
    case pos =>
      rw [if_neg (by simp [he])] at HZ
      rw [he] at ce
      have c3 : W2.cell? ⟨g, 3, none⟩ = some (.int .i64 R.k) := bv2.c 3 rfl
      by_cases hk : R.k = 4
      case pos =>
        have HV : Hid (Z = (⟨R.now, R.b⟩, true, 0)) := Lib.hid (by rw [HZ.out, if_pos hk])
        rw [hk] at c3
        clear HZ hk he
        have c5 : W2.cell? ⟨g, 5, none⟩ = some (.string (tb R.b)) := bv2.c 5 rfl
        have hbg : hpat W2 g = some (.cells (rcs R S) 32 (0, 0)) := bv2
        have hbr : hpat W2 (g + 1) = some (.cells #[.string ⟨#[]⟩, .string ⟨#[]⟩, .int .i64 0, .string ⟨#[]⟩, .int .i64 0, .slice none 0 0, .string ⟨#[]⟩] 49 (0, 0)) := br2
        have HBR := Lib.hid (box_row (mca ⟨R.now, R.b⟩ S) br2)
        have HB := Lib.hid (below_row hd2 (g := g + 1) (by have := HGW.out; omega) (mca ⟨R.now, R.b⟩ S))
        have HF := Lib.hid (Fs.row hF2 (g := g + 1) (fun hne ad hA => by have := hF9.out hne hA; have := HGW.out; omega) (mca ⟨R.now, R.b⟩ S))
        clear br2 bv2 hd2 hF2 hSn
        go_wp2
        refine bodyPost_ret (res_3M (i := 2) (j := 3) (l := 4) (g := g + 1) (cs := mca ⟨R.now, R.b⟩ S) Tryz.results28 rfl HBR.out rfl rfl rfl) rfl ?_
        rw [HV.out]
        exact ⟨S, rfl, HF.out, HB.out⟩
      case neg =>
        rw [if_neg hk] at HZ
        have hk4 : (R.k == 4) = false := beq_eq_false_iff_ne.2 hk
        have c2 : W2.cell? ⟨g, 2, none⟩ = some (.string (tb R.hd)) := bv2.c 2 rfl
        clear he hk
        by_cases k0 : R.k = 0
        case pos =>
          rw [k0] at c3
          clear hk4
          by_cases q1 : R.hd = []
          case pos =>
            have g1 := tb_em q1
            have HV : Hid (Z = (Mg.zero, false, 0)) := Lib.hid (by rw [HZ.out, if_pos ⟨k0, q1⟩])
            clear HZ k0 q1
            have hbr : hpat W2 (g + 1) = some (.cells #[.string ⟨#[]⟩, .string ⟨#[]⟩, .int .i64 0, .string ⟨#[]⟩, .int .i64 0, .slice none 0 0, .string ⟨#[]⟩] 49 (0, 0)) := br2
            have HBR := Lib.hid (box_row #[.string ⟨#[]⟩, .string ⟨#[]⟩, .int .i64 0, .string ⟨#[]⟩, .int .i64 0, .slice none 0 0, .string ⟨#[]⟩] br2)
            have HB := Lib.hid (below_row hd2 (g := g + 1) (by have := HGW.out; omega) #[.string ⟨#[]⟩, .string ⟨#[]⟩, .int .i64 0, .string ⟨#[]⟩, .int .i64 0, .slice none 0 0, .string ⟨#[]⟩])
            clear br2 bv2 hd2 hF2
            go_wp2
            refine bodyPost_ret (res_3M (i := 2) (j := 3) (l := 4) (g := g + 1) (cs := #[.string ⟨#[]⟩, .string ⟨#[]⟩, .int .i64 0, .string ⟨#[]⟩, .int .i64 0, .slice none 0 0, .string ⟨#[]⟩]) Tryz.results28 rfl HBR.out rfl rfl rfl) rfl ?_
            rw [HV.out]
            exact ⟨⟨none, 0, 0⟩, rfl, fs_zero _, HB.out⟩
          case neg =>
            have g1 := tb_ne q1
            have HV : Hid (Z = (Mg.zero, false, 22)) := Lib.hid (by rw [HZ.out, if_neg (fun h => q1 h.2)])
            clear HZ k0 q1
            have hbr : hpat W2 (g + 1) = some (.cells #[.string ⟨#[]⟩, .string ⟨#[]⟩, .int .i64 0, .string ⟨#[]⟩, .int .i64 0, .slice none 0 0, .string ⟨#[]⟩] 49 (0, 0)) := br2
            have HBR := Lib.hid (box_row #[.string ⟨#[]⟩, .string ⟨#[]⟩, .int .i64 0, .string ⟨#[]⟩, .int .i64 0, .slice none 0 0, .string ⟨#[]⟩] br2)
            have HB := Lib.hid (below_row hd2 (g := g + 1) (by have := HGW.out; omega) #[.string ⟨#[]⟩, .string ⟨#[]⟩, .int .i64 0, .string ⟨#[]⟩, .int .i64 0, .slice none 0 0, .string ⟨#[]⟩])
            clear br2 bv2 hd2 hF2
            go_wp2
            refine bodyPost_ret (res_3M (i := 2) (j := 3) (l := 4) (g := g + 1) (cs := #[.string ⟨#[]⟩, .string ⟨#[]⟩, .int .i64 0, .string ⟨#[]⟩, .int .i64 0, .slice none 0 0, .string ⟨#[]⟩]) Tryz.results28 rfl HBR.out rfl rfl rfl) rfl ?_
            rw [HV.out]
            exact ⟨⟨none, 0, 0⟩, rfl, fs_zero _, HB.out⟩
        case neg =>
          have k0b : (R.k == 0) = false := beq_eq_false_iff_ne.2 k0
          have HV : Hid (Z = (Mg.zero, false, 22)) := Lib.hid (by rw [HZ.out, if_neg (fun h => k0 h.1)])
          clear HZ k0
          have hbr : hpat W2 (g + 1) = some (.cells #[.string ⟨#[]⟩, .string ⟨#[]⟩, .int .i64 0, .string ⟨#[]⟩, .int .i64 0, .slice none 0 0, .string ⟨#[]⟩] 49 (0, 0)) := br2
          have HBR := Lib.hid (box_row #[.string ⟨#[]⟩, .string ⟨#[]⟩, .int .i64 0, .string ⟨#[]⟩, .int .i64 0, .slice none 0 0, .string ⟨#[]⟩] br2)
          have HB := Lib.hid (below_row hd2 (g := g + 1) (by have := HGW.out; omega) #[.string ⟨#[]⟩, .string ⟨#[]⟩, .int .i64 0, .string ⟨#[]⟩, .int .i64 0, .slice none 0 0, .string ⟨#[]⟩])
          clear br2 bv2 hd2 hF2
          go_wp2
          refine bodyPost_ret (res_3M (i := 2) (j := 3) (l := 4) (g := g + 1) (cs := #[.string ⟨#[]⟩, .string ⟨#[]⟩, .int .i64 0, .string ⟨#[]⟩, .int .i64 0, .slice none 0 0, .string ⟨#[]⟩]) Tryz.results28 rfl HBR.out rfl rfl rfl) rfl ?_
          rw [HV.out]
          exact ⟨⟨none, 0, 0⟩, rfl, fs_zero _, HB.out⟩
set_option maxRecDepth 100000 in
set_option maxHeartbeats 4000000 in
theorem pend9_c (R : Rr) (S : Sli) (w : World) (hF : Fs w S (mkF R.now.fs)) (hS : SmR R) : Calls Tryz.prog 26 #[.agg (rcs R S)] w (End9Ends (endR R) w) := by
  obtain ⟨Z, hZ⟩ : ∃ Z, endR R = Z := ⟨_, rfl⟩
  rw [hZ]
  have HZ : Hid (Z = if ¬ okR R then (Mg.zero, false, 1) else if R.e ≠ 0 then (Mg.zero, false, R.e) else if R.k = 4 then (⟨R.now, R.b⟩, true, 0) else if R.k = 0 ∧ R.hd = [] then (Mg.zero, false, 0) else (Mg.zero, false, 22)) := Lib.hid (by rw [← hZ]; rfl)
  clear hZ
  have hSn : S.n ≤ 1000000 := by
    have h1 := hF.len
    rw [show (mkF R.now.fs).length = R.now.fs.length from List.length_map _] at h1
    have := hS.n
    omega
  have hb0 := ba2 w (.cells (rcs R S) 32) (.cells #[.string ⟨#[]⟩, .string ⟨#[]⟩, .int .i64 0, .string ⟨#[]⟩, .int .i64 0, .slice none 0 0, .string ⟨#[]⟩] 49)
  have bv := (Box.new w 32 (rcs R S)).alloc (.cells #[.string ⟨#[]⟩, .string ⟨#[]⟩, .int .i64 0, .string ⟨#[]⟩, .int .i64 0, .slice none 0 0, .string ⟨#[]⟩] 49)
  have br := Box.mk' (w.alloc (.cells (rcs R S) 32)) 49 #[.string ⟨#[]⟩, .string ⟨#[]⟩, .int .i64 0, .string ⟨#[]⟩, .int .i64 0, .slice none 0 0, .string ⟨#[]⟩] (w.heap.size + 1) (by simp)
  have hF0 := hF.up hb0
  clear hF
  go_enter Tryz.func26, Tryz.ntmps26
  go_upto_region 1 with fail
  obtain ⟨g, hg⟩ : ∃ g, w.heap.size = g := ⟨_, rfl⟩
  rw [hg] at bv br ⊢
  have HGW := Lib.hid hg
  clear hg
  generalize (w.alloc (.cells (rcs R S) 32)).alloc (.cells #[.string ⟨#[]⟩, .string ⟨#[]⟩, .int .i64 0, .string ⟨#[]⟩, .int .i64 0, .slice none 0 0, .string ⟨#[]⟩] 49) = W0 at *
  have hbg : hpat W0 g = some (.cells (rcs R S) 32 (0, 0)) := bv
  have HRt := Lib.hid (pright9_c R S W0 hF0 hS)
  clear hS
  go_wp2_with fail
  refine HRt.out.mono ?_
  rintro E W2 ⟨rfl, hb2⟩
  have bv2 := bv.up hb2
  have br2 := br.up hb2
  have hd2 := bon hb0 hb2
  have hF2 := hF0.up hb2
  clear HRt bv br hb0 hF0 hb2 hbg
  by_cases hok : okR R
  case neg =>
    have HV : Hid (Z = (Mg.zero, false, 1)) := Lib.hid (by rw [HZ.out, if_pos hok])
    rw [decide_eq_false hok]
    clear hok HZ
    have hbr : hpat W2 (g + 1) = some (.cells #[.string ⟨#[]⟩, .string ⟨#[]⟩, .int .i64 0, .string ⟨#[]⟩, .int .i64 0, .slice none 0 0, .string ⟨#[]⟩] 49 (0, 0)) := br2
    have HBR := Lib.hid (box_row #[.string ⟨#[]⟩, .string ⟨#[]⟩, .int .i64 0, .string ⟨#[]⟩, .int .i64 0, .slice none 0 0, .string ⟨#[]⟩] br2)
    have HB := Lib.hid (below_row hd2 (g := g + 1) (by have := HGW.out; omega) #[.string ⟨#[]⟩, .string ⟨#[]⟩, .int .i64 0, .string ⟨#[]⟩, .int .i64 0, .slice none 0 0, .string ⟨#[]⟩])
    clear br2 bv2 hd2 hF2
    go_wp2
    refine bodyPost_ret (res_3M (i := 2) (j := 3) (l := 4) (g := g + 1) (cs := #[.string ⟨#[]⟩, .string ⟨#[]⟩, .int .i64 0, .string ⟨#[]⟩, .int .i64 0, .slice none 0 0, .string ⟨#[]⟩]) Tryz.results26 rfl HBR.out rfl rfl rfl) rfl ?_
    rw [HV.out]
    exact ⟨⟨none, 0, 0⟩, rfl, fs_zero _, HB.out⟩
  case pos =>
    rw [decide_eq_true hok]
    rw [if_neg (fun h => h hok)] at HZ
    clear hok
    have ce : W2.cell? ⟨g, 16, none⟩ = some (.int .i64 R.e) := bv2.c 16 rfl
    by_cases he : R.e = 0
    case neg =>
      have HV : Hid (Z = (Mg.zero, false, R.e)) := Lib.hid (by rw [HZ.out, if_pos he])
      have heb : (R.e != 0) = true := bne_iff_ne.2 he
      have c16 : W2.drew.cell? ⟨g, 16, none⟩ = some (.int .i64 R.e) := ce
      have hbd : Box (W2.drew.setRow (g + 1) #[.string ⟨#[]⟩, .string ⟨#[]⟩, .int .i64 0, .string ⟨#[]⟩, .int .i64 0, .slice none 0 0, .string ⟨#[]⟩]) g 32 (rcs R S) := bv2.row_far (w := W2.drew) (by omega) _
      have c17 : (W2.drew.setRow (g + 1) #[.string ⟨#[]⟩, .string ⟨#[]⟩, .int .i64 0, .string ⟨#[]⟩, .int .i64 0, .slice none 0 0, .string ⟨#[]⟩]).cell? ⟨g, 16, none⟩ = some (.int .i64 R.e) := hbd.c 16 rfl
      have hbr : hpat W2 (g + 1) = some (.cells #[.string ⟨#[]⟩, .string ⟨#[]⟩, .int .i64 0, .string ⟨#[]⟩, .int .i64 0, .slice none 0 0, .string ⟨#[]⟩] 49 (0, 0)) := br2
      have HBR := Lib.hid (box_row (w := W2.drew) #[.string ⟨#[]⟩, .string ⟨#[]⟩, .int .i64 0, .string ⟨#[]⟩, .int .i64 0, .slice none 0 0, .string ⟨#[]⟩] br2)
      have HB := Lib.hid (below_row (bon hd2 ((Below.refl W2.heap.size W2).drew)) (g := g + 1) (by have := HGW.out; omega) #[.string ⟨#[]⟩, .string ⟨#[]⟩, .int .i64 0, .string ⟨#[]⟩, .int .i64 0, .slice none 0 0, .string ⟨#[]⟩])
      clear he HZ br2 bv2 hd2 hF2 hbd
      go_upto_region 4 with fail
      go_region_held3 (fun W' => W'.cell? ⟨g, 16, none⟩ = some (.int .i64 R.e)) (first | exact c16 | exact c17 | fail) (fail)
      go_wp2
      refine bodyPost_ret (res_3M (i := 2) (j := 3) (l := 4) (g := g + 1) (cs := #[.string ⟨#[]⟩, .string ⟨#[]⟩, .int .i64 0, .string ⟨#[]⟩, .int .i64 0, .slice none 0 0, .string ⟨#[]⟩]) Tryz.results26 rfl HBR.out rfl rfl rfl) rfl ?_
      rw [HV.out]
      exact ⟨⟨none, 0, 0⟩, rfl, fs_zero _, HB.out⟩
    case pos =>
      rw [if_neg (by simp [he])] at HZ
      rw [he] at ce
      have c3 : W2.cell? ⟨g, 3, none⟩ = some (.int .i64 R.k) := bv2.c 3 rfl
      by_cases hk : R.k = 4
      case pos =>
        have HV : Hid (Z = (⟨R.now, R.b⟩, true, 0)) := Lib.hid (by rw [HZ.out, if_pos hk])
        rw [hk] at c3
        clear HZ hk he
        have c5 : W2.cell? ⟨g, 5, none⟩ = some (.string (tb R.b)) := bv2.c 5 rfl
        go_upto_region 6 with fail
        have hld : ldO 6 10 (hpat W2 g) = some (hcs R.now S) := by
          rw [show hpat W2 g = some (.cells (rcs R S) 32 (0, 0)) from bv2, ldO_at, rcs_size, if_pos (by decide), if_neg (by decide), rcs_now]
        have HOw := Lib.hid (pown_c R.now S W2.drew (hF2.up (Below.refl W2.heap.size W2).drew) hSn)
        clear ce c3 hSn
        go_region_held3 (fun W' => ldO 6 10 (hpat W' g) = some (hcs R.now S) ∧ W'.cell? ⟨g, 5, none⟩ = some (.string (tb R.b)))
          (first | exact ⟨hld, c5⟩ | exact heldEn bv3 | exact heldEn bv4 | fail)
          (first
            | (go_at_call 38; refine HOw.out.mono ?_; rintro E W3 ⟨S3, rfl, hF3, hfr3, hb3⟩; have hd3 : Below W2.heap.size W2 W3 := bon ((Below.refl W2.heap.size W2).drew) hb3; have bv3 := bv2.up hd3; have br3 := br2.up hd3; have hbr3 : hpat W3 (g + 1) = some (.cells #[.string ⟨#[]⟩, .string ⟨#[]⟩, .int .i64 0, .string ⟨#[]⟩, .int .i64 0, .slice none 0 0, .string ⟨#[]⟩] 49 (0, 0)) := br3; have bv4 : Box (W3.setRow (g + 1) (mca ⟨R.now, R.b⟩ S3)) g 32 (rcs R S) := bv3.row_far (by omega) _)
            | fail)
        rename_i hHeld
        have HBR := Lib.hid (box_row (mca ⟨R.now, R.b⟩ S3) br3)
        have HB := Lib.hid (below_row (bon hd2 hd3) (g := g + 1) (by have := HGW.out; omega) (mca ⟨R.now, R.b⟩ S3))
        have HF := Lib.hid (Fs.row hF3 (g := g + 1) (fun _ ad hA => by have h1 : W2.heap.size ≤ ad.block := hfr3 ad hA; have := br2.lt; omega) (mca ⟨R.now, R.b⟩ S3))
        clear hHeld hld c5 br2 bv2 hd2 hF2 hd3 hb3 bv3 br3 hbr3 bv4 hF3 hfr3
        go_wp2
        refine bodyPost_ret (res_3M (i := 2) (j := 3) (l := 4) (g := g + 1) (cs := mca ⟨R.now, R.b⟩ S3) Tryz.results26 rfl HBR.out rfl rfl rfl) rfl ?_
        rw [HV.out]
        exact ⟨S3, rfl, HF.out, HB.out⟩
      case neg =>
        rw [if_neg hk] at HZ
        have hk4 : (R.k == 4) = false := beq_eq_false_iff_ne.2 hk
        have c2 : W2.cell? ⟨g, 2, none⟩ = some (.string (tb R.hd)) := bv2.c 2 rfl
        clear he hk
        by_cases k0 : R.k = 0
        case pos =>
          rw [k0] at c3
          clear hk4
          by_cases q1 : R.hd = []
          case pos =>
            have g1 := tb_em q1
            have HV : Hid (Z = (Mg.zero, false, 0)) := Lib.hid (by rw [HZ.out, if_pos ⟨k0, q1⟩])
            clear HZ k0 q1
            have hbr : hpat W2 (g + 1) = some (.cells #[.string ⟨#[]⟩, .string ⟨#[]⟩, .int .i64 0, .string ⟨#[]⟩, .int .i64 0, .slice none 0 0, .string ⟨#[]⟩] 49 (0, 0)) := br2
            have HBR := Lib.hid (box_row #[.string ⟨#[]⟩, .string ⟨#[]⟩, .int .i64 0, .string ⟨#[]⟩, .int .i64 0, .slice none 0 0, .string ⟨#[]⟩] br2)
            have HB := Lib.hid (below_row hd2 (g := g + 1) (by have := HGW.out; omega) #[.string ⟨#[]⟩, .string ⟨#[]⟩, .int .i64 0, .string ⟨#[]⟩, .int .i64 0, .slice none 0 0, .string ⟨#[]⟩])
            clear br2 bv2 hd2 hF2
            go_wp2
            refine bodyPost_ret (res_3M (i := 2) (j := 3) (l := 4) (g := g + 1) (cs := #[.string ⟨#[]⟩, .string ⟨#[]⟩, .int .i64 0, .string ⟨#[]⟩, .int .i64 0, .slice none 0 0, .string ⟨#[]⟩]) Tryz.results26 rfl HBR.out rfl rfl rfl) rfl ?_
            rw [HV.out]
            exact ⟨⟨none, 0, 0⟩, rfl, fs_zero _, HB.out⟩
          case neg =>
            have g1 := tb_ne q1
            have HV : Hid (Z = (Mg.zero, false, 22)) := Lib.hid (by rw [HZ.out, if_neg (fun h => q1 h.2)])
            clear HZ k0 q1
            have hbr : hpat W2 (g + 1) = some (.cells #[.string ⟨#[]⟩, .string ⟨#[]⟩, .int .i64 0, .string ⟨#[]⟩, .int .i64 0, .slice none 0 0, .string ⟨#[]⟩] 49 (0, 0)) := br2
            have HBR := Lib.hid (box_row #[.string ⟨#[]⟩, .string ⟨#[]⟩, .int .i64 0, .string ⟨#[]⟩, .int .i64 0, .slice none 0 0, .string ⟨#[]⟩] br2)
            have HB := Lib.hid (below_row hd2 (g := g + 1) (by have := HGW.out; omega) #[.string ⟨#[]⟩, .string ⟨#[]⟩, .int .i64 0, .string ⟨#[]⟩, .int .i64 0, .slice none 0 0, .string ⟨#[]⟩])
            clear br2 bv2 hd2 hF2
            go_wp2
            refine bodyPost_ret (res_3M (i := 2) (j := 3) (l := 4) (g := g + 1) (cs := #[.string ⟨#[]⟩, .string ⟨#[]⟩, .int .i64 0, .string ⟨#[]⟩, .int .i64 0, .slice none 0 0, .string ⟨#[]⟩]) Tryz.results26 rfl HBR.out rfl rfl rfl) rfl ?_
            rw [HV.out]
            exact ⟨⟨none, 0, 0⟩, rfl, fs_zero _, HB.out⟩
        case neg =>
          have k0b : (R.k == 0) = false := beq_eq_false_iff_ne.2 k0
          have HV : Hid (Z = (Mg.zero, false, 22)) := Lib.hid (by rw [HZ.out, if_neg (fun h => k0 h.1)])
          clear HZ k0
          have hbr : hpat W2 (g + 1) = some (.cells #[.string ⟨#[]⟩, .string ⟨#[]⟩, .int .i64 0, .string ⟨#[]⟩, .int .i64 0, .slice none 0 0, .string ⟨#[]⟩] 49 (0, 0)) := br2
          have HBR := Lib.hid (box_row #[.string ⟨#[]⟩, .string ⟨#[]⟩, .int .i64 0, .string ⟨#[]⟩, .int .i64 0, .slice none 0 0, .string ⟨#[]⟩] br2)
          have HB := Lib.hid (below_row hd2 (g := g + 1) (by have := HGW.out; omega) #[.string ⟨#[]⟩, .string ⟨#[]⟩, .int .i64 0, .string ⟨#[]⟩, .int .i64 0, .slice none 0 0, .string ⟨#[]⟩])
          clear br2 bv2 hd2 hF2
          go_wp2
          refine bodyPost_ret (res_3M (i := 2) (j := 3) (l := 4) (g := g + 1) (cs := #[.string ⟨#[]⟩, .string ⟨#[]⟩, .int .i64 0, .string ⟨#[]⟩, .int .i64 0, .slice none 0 0, .string ⟨#[]⟩]) Tryz.results26 rfl HBR.out rfl rfl rfl) rfl ?_
          rw [HV.out]
          exact ⟨⟨none, 0, 0⟩, rfl, fs_zero _, HB.out⟩
end Go.Proofs.YtdlihfbaepjliaaGreatDoor
