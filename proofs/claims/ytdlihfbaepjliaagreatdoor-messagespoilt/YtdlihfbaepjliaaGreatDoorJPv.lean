/-
  The walk of message's own Feed.
-/
import Derived.Test.YtdlihfbaepjliaaGreatDoorJPu
import Derived.Test.YtdlihfbaepjliaaGreatDoorPs
import Derived.Test.YtdlihfbaepjliaaGreatDoorJPw
namespace Go.Proofs.YtdlihfbaepjliaaGreatDoor
open Go.RowKit
attribute [local go_sem ↓] exec_ldR exec_ldH exec_ldK exec_ldM exec_stR exec_stH exec_stK exec_stM exec_bdM exec_bsM
attribute [local go_sem] run_bdM run_bsM run_ldR run_ldH run_ldK run_ldM run_stR run_stH run_stK run_stM ldO_at stO_at rcs_size hcs_size kcs_size mca_size rcs_one hcs_one kcs_one mca_one rcs_oneN hcs_oneN kcs_oneN mca_oneN rcs_now rcs_ck mca_head hpat_drew hpat_new
attribute [local go_sem ↓] exec_stP exec_bdP
attribute [local go_sem] run_stP run_bdP pcs_size pcs_one pcs_oneN pcs_rd pcs_now pcs_ck pspl_now pspl_ck pspl_rd

/-- the state of the loop -/
structure FeedQ (w wr : World) (g gp B : Nat) (old : Array Value) (R R1 : Rr) (S1 O : Sli) (ms : List MS7) (s : Bs) (k : Nat) : Prop where
  ps : PS wr gp R1 S1 O
  br : Box wr (g + 1) 32 old
  hb : Below w.heap.size w wr
  hw : B ≤ wr.heap.size
  mo : Mo wr B (fun k => k < w.heap.size ∨ k = gp ∨ k = g + 1) O ms
  aw : ∀ k, k < w.heap.size ∨ k = gp ∨ k = g + 1 → Away k S1.A (mkF R1.now.fs)
  ap : Apt O S1 (mkF R1.now.fs)
  lo : Loc w none [] S1.A (mkF R1.now.fs)
  eq : feedM R [] (s.take k) = (R1, ms.map (·.1))
  iv : InvR R1 (4000 + k)
  ln : ms.length ≤ k
theorem heldG3 {W : World} {g : Nat} {o : Obj} {i j : Nat} {u v : Value} (g2 : Nat) (cs : Array Value) (h1 : g ≠ g2) (h : hpat W g = some o ∧ W.cell? ⟨g, i, none⟩ = some u ∧ W.cell? ⟨g, j, none⟩ = some v) : hpat (W.setRow g2 cs) g = some o ∧ (W.setRow g2 cs).cell? ⟨g, i, none⟩ = some u ∧ (W.setRow g2 cs).cell? ⟨g, j, none⟩ = some v :=
  ⟨(row_heap W g2 cs g h1).trans h.1, (cell_setRow_other W g2 cs _ h1).trans h.2.1, (cell_setRow_other W g2 cs _ h1).trans h.2.2⟩
/-- a reader, messages and an error are handed back; their fields lie in new memory -/
def Feed9New (Z : Rr × List Mg × Int) (w : World) (E : Ending) (w' : World) : Prop :=
  ∃ (S O : Sli) (ms : List MS7), E = .returned (.tuple #[.agg (rcs Z.1 S), .slice O.A O.n O.c, .int .i64 Z.2.2]) ∧ Fs w' S (mkF Z.1.now.fs) ∧ Loc w none [] S.A (mkF Z.1.now.fs) ∧ Ms w' O ms ∧ ms.map (·.1) = Z.2.1 ∧ Below w.heap.size w w' ∧ (∀ x ∈ ms, ∀ k, k < w.heap.size → Away k x.2.A (mkF x.1.h.fs)) ∧ Fresh w O
set_option maxRecDepth 100000 in
set_option maxHeartbeats 4000000 in
theorem pfeed9_f (R : Rr) (S : Sli) (s : Bs) (w : World) (hF : Fs w S (mkF R.now.fs)) (hS : SmR R) (hs : s.length ≤ 1000000) (hmx : Mx w) : Calls Tryz.prog 19 #[.agg (rcs R S), .string (tb s)] w (Feed9New (feedR R s) w) := by
  obtain ⟨Z, hZ⟩ : ∃ Z, feedR R s = Z := ⟨_, rfl⟩
  rw [hZ]
  have HZ : Hid (Z = if okR R then ((feedM R [] s).1, (feedM R [] s).2, (feedM R [] s).1.e) else (R, [], 1)) := Lib.hid (by rw [← hZ]; rfl)
  clear hZ
  have h0 := D2.start w R S #[.bool false, .string ⟨#[]⟩, .string ⟨#[]⟩, .int .i64 0, .int .i64 0, .string ⟨#[]⟩, .int .i64 0, .int .i64 0, .string ⟨#[]⟩, .int .i64 0, .string ⟨#[]⟩, .string ⟨#[]⟩, .int .i64 0, .string ⟨#[]⟩, .int .i64 0, .slice none 0 0, .int .i64 0] rfl hF
  have hSn : S.n ≤ 1000000 := by
    have h1 := hF.len
    rw [show (mkF R.now.fs).length = R.now.fs.length from List.length_map _] at h1
    have := hS.n
    omega
  obtain ⟨L, hL⟩ : ∃ L, tb s = L := ⟨_, rfl⟩
  have hLs : L.size = s.length := by rw [← hL, tb_size]
  have HL := Lib.hid hL
  have HLs := Lib.hid hLs
  have HGM : Hid (3 < w.heap.size) := Lib.hid (by
    obtain ⟨m, hm⟩ := hmx
    exact World.block_lt_of_cell? w _ hm)
  have HMX := Lib.hid hmx
  rw [hL]
  clear hL hF hLs hmx
  go_enter Tryz.func19, Tryz.ntmps19
  go_upto_region 1 with fail
  obtain ⟨g, hg⟩ : ∃ g, w.heap.size = g := ⟨_, rfl⟩
  rw [hg] at h0 ⊢
  have HGW := Lib.hid hg
  clear hg
  generalize (w.alloc (.cells (rcs R S) 32)).alloc (.cells #[.bool false, .string ⟨#[]⟩, .string ⟨#[]⟩, .int .i64 0, .int .i64 0, .string ⟨#[]⟩, .int .i64 0, .int .i64 0, .string ⟨#[]⟩, .int .i64 0, .string ⟨#[]⟩, .string ⟨#[]⟩, .int .i64 0, .string ⟨#[]⟩, .int .i64 0, .slice none 0 0, .int .i64 0] 32) = W0 at *
  have hbg : hpat W0 g = some (.cells (rcs R S) 32 (0, 0)) := h0.bv
  go_wp2_with fail
  refine (pown_c R.now S W0 h0.fs hSn).mono ?_
  rintro E w1 ⟨S1, rfl, hF1, hfr1, hb1⟩
  have hbg : hpat w1 g = some (.cells (rcs R S) 32 (0, 0)) := h0.bv.up hb1
  have h1 := (h0.up hb1).row (R' := R) (S' := S1) hF1 (fun _ ad hA => by have := hfr1 ad hA; have := h0.bv.lt; omega) (fun _ ad hA => by have := hfr1 ad hA; have := h0.br.lt; omega)
  have hsp : spl (rcs R S) 10 (hcs R.now S1).toList = rcs R S1 := rfl
  have HFr : Hid (∀ ad, S1.A = some ad → g + 2 ≤ ad.block) := Lib.hid (fun ad hA => by have := hfr1 ad hA; have := h0.br.lt; omega)
  clear h0 hF1 hfr1 hb1
  go_upto_region 2 with fail
  clear hbg hsp
  generalize w1.setRow g (rcs R S1) = W1 at *
  have hbg : hpat W1 g = some (.cells (rcs R S1) 32 (0, 0)) := h1.bv
  have HRt := Lib.hid (pright9_c R S1 W1 h1.fs hS)
  clear hS
  go_wp2_with fail
  refine HRt.out.mono ?_
  rintro E w2 ⟨rfl, hb2⟩
  have h2 := h1.up hb2
  have HLo : Hid (Loc w none [] S1.A (mkF R.now.fs)) := Lib.hid (fun ad hA => .inl (by have := HFr.out ad hA; have := HGW.out; omega))
  clear HRt h1 hb2 hbg
  by_cases hok : okR R
  case neg =>
    have HV : Hid (Z = (R, [], 1)) := Lib.hid (by rw [HZ.out, if_neg hok])
    rw [decide_eq_false hok]
    have hbg : hpat w2 g = some (.cells (rcs R S1) 32 (0, 0)) := h2.bv
    have hbr : hpat w2 (g + 1) = some (.cells #[.bool false, .string ⟨#[]⟩, .string ⟨#[]⟩, .int .i64 0, .int .i64 0, .string ⟨#[]⟩, .int .i64 0, .int .i64 0, .string ⟨#[]⟩, .int .i64 0, .string ⟨#[]⟩, .string ⟨#[]⟩, .int .i64 0, .string ⟨#[]⟩, .int .i64 0, .slice none 0 0, .int .i64 0] 32 (0, 0)) := h2.br
    have HBR := Lib.hid (box_row (rcs R S1) h2.br)
    have HE : Hid (Fs (w2.setRow (g + 1) (rcs R S1)) S1 (mkF R.now.fs) ∧ Below w.heap.size w (w2.setRow (g + 1) (rcs R S1))) := Lib.hid ⟨Fs.row h2.fs h2.a1 _, below_row h2.hb (by have := h2.g0; omega) _⟩
    clear hok HZ h2
    go_wp2
    refine bodyPost_ret (res_3 (i := 4) (j := 5) (l := 6) (g := g + 1) (cs := rcs R S1) Tryz.results19 rfl HBR.out rfl rfl rfl) rfl ?_
    rw [HV.out]
    exact ⟨S1, ⟨none, 0, 0⟩, [], rfl, HE.out.1, HLo.out, (Mo.nil _ 0 (fun _ => True)).ms, rfl, HE.out.2, (fun _ h => by cases h), fresh_nil _⟩
  case pos =>
    have HV : Hid (∀ R1 ms, feedM R [] s = (R1, ms) → Z = (R1, ms, R1.e)) := Lib.hid (fun R1 ms h => by rw [HZ.out, if_pos hok, h])
    have hiv := invR_ok hok
    have hbg : hpat w2 g = some (.cells (rcs R S1) 32 (0, 0)) := h2.bv
    have hz := pcs_one R S1 ⟨none, 0, 0⟩
    rw [decide_eq_true hok]
    clear hok HZ
    go_upto_region 5 with fail
    have hba : Below w2.heap.size w2 ((w2.alloc (.cells #[.bool false, .string ⟨#[]⟩, .string ⟨#[]⟩, .int .i64 0, .int .i64 0, .string ⟨#[]⟩, .int .i64 0, .int .i64 0, .string ⟨#[]⟩, .int .i64 0, .string ⟨#[]⟩, .string ⟨#[]⟩, .int .i64 0, .string ⟨#[]⟩, .int .i64 0, .slice none 0 0, .int .i64 0, .slice none 0 0] 75)).setRow w2.heap.size (pcs R S1 ⟨none, 0, 0⟩)) := below_row (ba1 w2 _) (Nat.le_refl _) _
    have bp := box_row (pcs R S1 ⟨none, 0, 0⟩) (Box.new w2 75 #[.bool false, .string ⟨#[]⟩, .string ⟨#[]⟩, .int .i64 0, .int .i64 0, .string ⟨#[]⟩, .int .i64 0, .int .i64 0, .string ⟨#[]⟩, .int .i64 0, .string ⟨#[]⟩, .string ⟨#[]⟩, .int .i64 0, .string ⟨#[]⟩, .int .i64 0, .slice none 0 0, .int .i64 0, .slice none 0 0])
    have h3 := h2.up hba
    have HGP : Hid (g + 1 < w2.heap.size) := Lib.hid h2.br.lt
    have HFP : Hid (∀ hne : mkF R.now.fs ≠ [], ∀ ad, S1.A = some ad → ad.block < w2.heap.size) := Lib.hid (fun hne ad hA => h2.fs.lt hne hA)
    clear hbg hz hba h2
    obtain ⟨gp, hgp⟩ : ∃ k, w2.heap.size = k := ⟨_, rfl⟩
    rw [hgp] at h3 bp HGP HFP ⊢
    clear hgp
    generalize (w2.alloc (.cells #[.bool false, .string ⟨#[]⟩, .string ⟨#[]⟩, .int .i64 0, .int .i64 0, .string ⟨#[]⟩, .int .i64 0, .int .i64 0, .string ⟨#[]⟩, .int .i64 0, .string ⟨#[]⟩, .string ⟨#[]⟩, .int .i64 0, .string ⟨#[]⟩, .int .i64 0, .slice none 0 0, .int .i64 0, .slice none 0 0] 75)).setRow gp (pcs R S1 ⟨none, 0, 0⟩) = W4 at *
    have hI : FeedQ w W4 g gp gp #[.bool false, .string ⟨#[]⟩, .string ⟨#[]⟩, .int .i64 0, .int .i64 0, .string ⟨#[]⟩, .int .i64 0, .int .i64 0, .string ⟨#[]⟩, .int .i64 0, .string ⟨#[]⟩, .string ⟨#[]⟩, .int .i64 0, .string ⟨#[]⟩, .int .i64 0, .slice none 0 0, .int .i64 0] R R S1 ⟨none, 0, 0⟩ [] s 0 := ⟨⟨bp, h3.fs, (fun hne ad hA => by have := HFP.out hne ad hA; omega), HMX.out.up h3.hb, by have := HGM.out; have := HGW.out; have := HGP.out; omega⟩, h3.br, h3.hb, Nat.le_of_lt bp.lt, Mo.nil _ _ _, (fun k hk => by rcases hk with hk | rfl | rfl; exact (fun hne ad hA => by have := HFr.out ad hA; have := HGW.out; omega); exact (fun hne ad hA => by have := HFP.out hne ad hA; omega); exact h3.a1), (fun _ _ _ _ h => by cases h), HLo.out, rfl, hiv, Nat.le_refl _⟩
    clear h3 bp hiv HFP
    go_wp2_with fail
    go_loopw [8] (fun i wr => ∃ (k : Nat) (R1 : Rr) (S1 O : Sli) (ms : List MS7), k ≤ s.length ∧ i = .int .i64 (k : Int) ∧ FeedQ w wr g gp gp #[.bool false, .string ⟨#[]⟩, .string ⟨#[]⟩, .int .i64 0, .int .i64 0, .string ⟨#[]⟩, .int .i64 0, .int .i64 0, .string ⟨#[]⟩, .int .i64 0, .string ⟨#[]⟩, .string ⟨#[]⟩, .int .i64 0, .string ⟨#[]⟩, .int .i64 0, .slice none 0 0, .int .i64 0] R R1 S1 O ms s k) (fun i _ => s.length - (intOf i).toNat)
    case atStart => exact ⟨0, R, S1, ⟨none, 0, 0⟩, [], Nat.zero_le _, rfl, hI⟩
    case round =>
      clear HFr HLo
      obtain ⟨k, R1, S1, O, ms, hk, rfl, hi⟩ := hrel
      have ce : wr.cell? ⟨gp, 16, none⟩ = some (.int .i64 R1.e) := hi.ps.bx.c 16 rfl
      by_cases hgo : k < s.length ∧ R1.e = 0
      case neg =>
        have HE : Hid (feedM R [] s = (R1, ms.map (·.1))) := Lib.hid (feedM_end hi.eq (by
          by_cases he : R1.e = 0
          · exact .inr (by omega)
          · exact .inl he))
        have HV2 : Hid (Z = (R1, ms.map (·.1), R1.e)) := Lib.hid (HV.out _ _ HE.out)
        clear HE HV
        by_cases hlt : k < s.length
        · have he : R1.e ≠ 0 := fun h => hgo ⟨hlt, h⟩
          have heb : (R1.e == 0) = false := beq_eq_false_iff_ne.2 he
          have hn : k < L.size := by rw [HLs.out]; exact hlt
          have tlt : (k : Int) < (L.size : Int) := by omega
          clear hgo he
          go_upto_region 9 with fail
          clear ce
          have hbp : hpat wr gp = some (.cells (pcs R1 S1 O) 75 (0, 0)) := hi.ps.bx
          have hbr : hpat wr (g + 1) = some (.cells #[.bool false, .string ⟨#[]⟩, .string ⟨#[]⟩, .int .i64 0, .int .i64 0, .string ⟨#[]⟩, .int .i64 0, .int .i64 0, .string ⟨#[]⟩, .int .i64 0, .string ⟨#[]⟩, .string ⟨#[]⟩, .int .i64 0, .string ⟨#[]⟩, .int .i64 0, .slice none 0 0, .int .i64 0] 32 (0, 0)) := hi.br
          have c16 : wr.cell? ⟨gp, 16, none⟩ = some (.int .i64 R1.e) := hi.ps.bx.c 16 rfl
          have c17 : wr.cell? ⟨gp, 17, none⟩ = some (.slice O.A O.n O.c) := hi.ps.bx.c 17 rfl
          have hgp1 := HGP.out
          go_region_held3 (fun W' => hpat W' gp = some (.cells (pcs R1 S1 O) 75 (0, 0)) ∧ W'.cell? ⟨gp, 16, none⟩ = some (.int .i64 R1.e) ∧ W'.cell? ⟨gp, 17, none⟩ = some (.slice O.A O.n O.c)) (first | exact ⟨hbp, c16, c17⟩ | exact heldG3 (g + 1) _ (by omega) (by assumption) | fail) (fail)
          have e9 : Box (wr.drew.setRow (g + 1) (rcs R1 S1)) (g + 1) 32 (rcs R1 S1) := box_row (w := wr.drew) _ hi.br
          have hM := (hi.mo.up ((Below.refl wr.heap.size wr).drew)).row_set (g := g + 1) (hi.br.up ((Below.refl wr.heap.size wr).drew)) (by decide) (.inr (.inr rfl)) (rcs R1 S1)
          have HM := Lib.hid hM.ms
          have HA := Lib.hid (fun x hx k hk => hM.aw x hx k (.inl hk))
          have HFo : Hid (Fresh w O) := Lib.hid (fun ad hA => by
            rcases hM.row.2 with ⟨e1, _⟩ | ⟨gb, cap, cur, e1, hge, _⟩
            · simp only [Value.slice.injEq] at e1
              rw [e1.1] at hA
              cases hA
            · simp only [Value.slice.injEq] at e1
              rw [e1.1] at hA
              obtain rfl := Option.some.inj hA
              have := HGW.out
              have := HGP.out
              show w.heap.size ≤ gb
              omega)
          have HF := Lib.hid (Fs.row (hi.ps.fs.up ((Below.refl wr.heap.size wr).drew)) (hi.aw (g + 1) (.inr (.inr rfl))) (rcs R1 S1))
          have HB := Lib.hid (below_row (bon hi.hb ((Below.refl wr.heap.size wr).drew)) (g := g + 1) (by have := HGW.out; omega) (rcs R1 S1))
          have HLo := Lib.hid hi.lo
          have HBR := Lib.hid e9
          clear hbr hbp c16 c17 hM hi e9 hgp1
          go_wp2
          refine bodyPost_ret (res_3 (i := 4) (j := 5) (l := 6) (g := g + 1) (cs := rcs R1 S1) Tryz.results19 rfl HBR.out rfl rfl rfl) rfl ?_
          rw [HV2.out]
          exact ⟨S1, O, ms, rfl, HF.out, HLo.out, HM.out, rfl, HB.out, HA.out, HFo.out⟩
        · have hn : ¬ k < L.size := by rw [HLs.out]; exact hlt
          have tlt : ¬ (k : Int) < (L.size : Int) := by omega
          clear hgo
          go_upto_region 9 with fail
          clear ce
          have hbp : hpat wr gp = some (.cells (pcs R1 S1 O) 75 (0, 0)) := hi.ps.bx
          have hbr : hpat wr (g + 1) = some (.cells #[.bool false, .string ⟨#[]⟩, .string ⟨#[]⟩, .int .i64 0, .int .i64 0, .string ⟨#[]⟩, .int .i64 0, .int .i64 0, .string ⟨#[]⟩, .int .i64 0, .string ⟨#[]⟩, .string ⟨#[]⟩, .int .i64 0, .string ⟨#[]⟩, .int .i64 0, .slice none 0 0, .int .i64 0] 32 (0, 0)) := hi.br
          have c16 : wr.cell? ⟨gp, 16, none⟩ = some (.int .i64 R1.e) := hi.ps.bx.c 16 rfl
          have c17 : wr.cell? ⟨gp, 17, none⟩ = some (.slice O.A O.n O.c) := hi.ps.bx.c 17 rfl
          have hgp1 := HGP.out
          go_region_held3 (fun W' => hpat W' gp = some (.cells (pcs R1 S1 O) 75 (0, 0)) ∧ W'.cell? ⟨gp, 16, none⟩ = some (.int .i64 R1.e) ∧ W'.cell? ⟨gp, 17, none⟩ = some (.slice O.A O.n O.c)) (first | exact ⟨hbp, c16, c17⟩ | exact heldG3 (g + 1) _ (by omega) (by assumption) | fail) (fail)
          have e9 : Box (wr.drew.setRow (g + 1) (rcs R1 S1)) (g + 1) 32 (rcs R1 S1) := box_row (w := wr.drew) _ hi.br
          have hM := (hi.mo.up ((Below.refl wr.heap.size wr).drew)).row_set (g := g + 1) (hi.br.up ((Below.refl wr.heap.size wr).drew)) (by decide) (.inr (.inr rfl)) (rcs R1 S1)
          have HM := Lib.hid hM.ms
          have HA := Lib.hid (fun x hx k hk => hM.aw x hx k (.inl hk))
          have HFo : Hid (Fresh w O) := Lib.hid (fun ad hA => by
            rcases hM.row.2 with ⟨e1, _⟩ | ⟨gb, cap, cur, e1, hge, _⟩
            · simp only [Value.slice.injEq] at e1
              rw [e1.1] at hA
              cases hA
            · simp only [Value.slice.injEq] at e1
              rw [e1.1] at hA
              obtain rfl := Option.some.inj hA
              have := HGW.out
              have := HGP.out
              show w.heap.size ≤ gb
              omega)
          have HF := Lib.hid (Fs.row (hi.ps.fs.up ((Below.refl wr.heap.size wr).drew)) (hi.aw (g + 1) (.inr (.inr rfl))) (rcs R1 S1))
          have HB := Lib.hid (below_row (bon hi.hb ((Below.refl wr.heap.size wr).drew)) (g := g + 1) (by have := HGW.out; omega) (rcs R1 S1))
          have HLo := Lib.hid hi.lo
          have HBR := Lib.hid e9
          clear hbr hbp c16 c17 hM hi e9 hgp1
          go_wp2
          refine bodyPost_ret (res_3 (i := 4) (j := 5) (l := 6) (g := g + 1) (cs := rcs R1 S1) Tryz.results19 rfl HBR.out rfl rfl rfl) rfl ?_
          rw [HV2.out]
          exact ⟨S1, O, ms, rfl, HF.out, HLo.out, HM.out, rfl, HB.out, HA.out, HFo.out⟩
      case pos =>
        obtain ⟨hlt, he⟩ := hgo
        obtain ⟨ch, hch⟩ : ∃ ch, s[k]? = some ch := ⟨_, List.getElem?_eq_getElem hlt⟩
        have HEq : Hid (feedM R [] (s.take (k + 1)) = stepR R1 (ms.map (·.1)) ch) := Lib.hid (feedM_take hi.eq hch he)
        have HX : Hid (L.extract k (k + 1) = tb [ch]) := Lib.hid (by
          rw [← HL.out, tb_ext, List.take_add_one, hch]
          congr 1
          rw [List.drop_append_of_le_length (by rw [List.length_take]; omega), List.drop_eq_nil_of_le (by rw [List.length_take]; omega)]
          rfl)
        have HI2 : Hid (InvR (stepR R1 (ms.map (·.1)) ch).1 (4000 + k + 1)) := Lib.hid (by
          unfold stepR
          split
          · exact invR_new _ _ _
          · exact invR_one hi.iv ch)
        have HLn : Hid ((stepR R1 (ms.map (·.1)) ch).2.length ≤ k + 1) := Lib.hid (by
          have := hi.ln
          unfold stepR
          split
          · simp; omega
          · simp; omega)
        have HRd : Hid (Calls Tryz.prog 39 #[.pointer (some ⟨gp, 0, none⟩), .string (L.extract k (k + 1))] wr (SEnds gp gp (fun k => k < w.heap.size ∨ k = gp ∨ k = g + 1) S1.A (mkF R1.now.fs) (stepR R1 (ms.map (·.1)) ch) wr)) := Lib.hid (by
          rw [HX.out]
          exact pread_c R1 S1 O ms ch gp gp wr hi.ps (fun k => k < w.heap.size ∨ k = gp ∨ k = g + 1) (.inr (.inl rfl)) hi.aw (fun k hk => by have := hi.ps.bx.lt; have := hi.br.lt; have := hi.hb.size; omega) hi.mo hi.ap he (by have := HGM.out; have := HGW.out; have := HGP.out; omega) (Nat.le_refl _) hi.hw (by have := hi.iv.1; omega) (by have := hi.iv.2; omega) (by have := hi.ln; omega))
        obtain ⟨Z1, hZ1⟩ : ∃ Z, stepR R1 (ms.map (·.1)) ch = Z := ⟨_, rfl⟩
        rw [hZ1] at HEq HI2 HLn HRd
        clear hZ1 hch HX
        rw [he] at ce
        have hn : k < L.size := by rw [HLs.out]; exact hlt
        have tlt : (k : Int) < (L.size : Int) := by omega
        have tle : ((k : Int) + 1) ≤ (L.size : Int) := by omega
        have tw : IntKind.i64.wrap ((k : Int) + 1) = (k : Int) + 1 := IntWalk.i64_in _ (by omega)
        have tn : ((k : Int) + 1).toNat = k + 1 := by omega
        have t0 : (0 : Int) ≤ (k : Int) := by omega
        have t1 : (0 : Int) ≤ (k : Int) + 1 := by omega
        have t2 : (k : Int) ≤ (k : Int) + 1 := by omega
        clear HV
        go_wp2_with fail
        refine HRd.out.mono ?_
        rintro E w5 ⟨rfl, S5, O5, ms5, hps5, hmo5, haw5, hap5, hmp5, hlo5, hsz5, hbel5⟩
        have HQ : Hid (FeedQ w w5 g gp gp #[.bool false, .string ⟨#[]⟩, .string ⟨#[]⟩, .int .i64 0, .int .i64 0, .string ⟨#[]⟩, .int .i64 0, .int .i64 0, .string ⟨#[]⟩, .int .i64 0, .string ⟨#[]⟩, .string ⟨#[]⟩, .int .i64 0, .string ⟨#[]⟩, .int .i64 0, .slice none 0 0, .int .i64 0] R Z1.1 S5 O5 ms5 s (k + 1)) := Lib.hid (by
          have hbb := hbel5 wr (Below.refl gp wr)
          refine ⟨hps5, hi.br.below hbb (by have := HGP.out; omega), hi.hb.trans (hbb.mono (by have := HGW.out; have := HGP.out; omega)), Nat.le_trans hi.hw hsz5, hmo5, haw5, hap5, hi.lo.on hi.hb.size hlo5, ?_, HI2.out, ?_⟩
          · rw [HEq.out, hmp5]
          · have := HLn.out
            rw [← hmp5, List.length_map] at this
            exact this)
        clear hps5 hmo5 haw5 hap5 hmp5 hlo5 hsz5 hbel5 hi HRd HEq HI2 HLn ce
        go_wp2_with fail
        go_roundw
        case rel => exact ⟨k + 1, Z1.1, S5, O5, ms5, by omega, by go_num, HQ.out⟩
        case measure => simp [intOf]; omega
theorem pfeed9_c (R : Rr) (S : Sli) (s : Bs) (w : World) (hF : Fs w S (mkF R.now.fs)) (hS : SmR R) (hs : s.length ≤ 1000000) (hmx : Mx w) : Calls Tryz.prog 19 #[.agg (rcs R S), .string (tb s)] w (Feed9Ends (feedR R s) none [] w) :=
  (pfeed9_f R S s w hF hS hs hmx).mono fun _ _ ⟨S1, O, ms, h1, h2, h3, h4, h5, h6, _, _⟩ => ⟨S1, O, ms, h1, h2, h3, h4, h5, h6⟩
end Go.Proofs.YtdlihfbaepjliaaGreatDoor

/-
  The walk of the laws' own awake.
-/
namespace Go.Proofs.YtdlihfbaepjliaaGreatDoor
open Go.RowKit
attribute [local go_sem ↓] exec_ldR exec_ldH exec_ldK exec_ldM exec_stR exec_stH exec_stK exec_stM
attribute [local go_sem] run_ldR run_ldH run_ldK run_ldM run_stR run_stH run_stK run_stM ldO_at stO_at rcs_size hcs_size kcs_size mca_size rcs_one hcs_one kcs_one mca_one rcs_oneN hcs_oneN kcs_oneN mca_oneN rcs_now rcs_ck mca_head hpat_drew hpat_new
attribute [local go_sem ↓] exec_stP exec_bdP
attribute [local go_sem] run_stP run_bdP pcs_size pcs_one pcs_oneN pcs_rd pcs_now pcs_ck pspl_now pspl_ck pspl_rd
attribute [local go_sem] zM_one zM_size
theorem map_one {ms : List MS7} {M : Mg} (h : ms.map (·.1) = [M]) : ∃ T : Sli, ms = [(M, T)] := by
  match ms, h with
  | [x], h =>
    obtain ⟨M', T⟩ := x
    simp only [List.map_cons, List.map_nil, List.cons.injEq, and_true] at h
    subst h
    exact ⟨T, rfl⟩
theorem ms_cells {w : World} {A : Option Addr} {n c : Nat} {M : Mg} {T : Sli} (h : Ms w ⟨A, n, c⟩ [(M, T)]) : n = 1 ∧ ∃ b o, A = some ⟨b, o, none⟩ ∧ ∀ j u, (mcs (M, T))[j]? = some u → w.cell? ⟨b, o + j, none⟩ = some u := by
  have hn : n = 1 := h.len.symm
  obtain ⟨b, o, x, h1, h2, _, _, h3⟩ := h.cell (k := 0) (by show 0 < n; omega)
  obtain rfl : (M, T) = x := Option.some.inj h2
  exact ⟨hn, b, o, h1, fun j u hu => by have := h3 j u hu; rw [Nat.zero_mul, Nat.zero_add] at this; exact this⟩
set_option maxRecDepth 100000 in
set_option maxHeartbeats 8000000 in
theorem awake9_any (w : World) (hT : Tabs w) : Calls Tryz.prog 11 #[] w (BoolEnds true w) := by
  have HTb := Lib.hid hT
  clear hT
  have HN1 : Hid (∀ W, Calls Tryz.prog 20 #[.bool false, .string ⟨#[]⟩] W (fun E w' => E = .returned (.agg (rcs (newR false []) ⟨none, 0, 0⟩)) ∧ Below W.heap.size W w')) := Lib.hid (fun W => mnew_c false [] W)
  have HN2 : Hid (∀ W, Calls Tryz.prog 20 #[.bool true, .string ⟨#[71, 69, 84]⟩] W (fun E w' => E = .returned (.agg (rcs (newR true [71, 69, 84]) ⟨none, 0, 0⟩)) ∧ Below W.heap.size W w')) := Lib.hid (fun W => mnew_c true [71, 69, 84] W)
  have H1 : Hid (∀ W, Mx W → Calls Tryz.prog 19 #[.agg (rcs (newR false []) ⟨none, 0, 0⟩), .string ⟨#[80, 79, 83, 84, 32, 47, 32, 72, 84, 84, 80, 47, 49, 46, 49, 13, 10, 67, 111, 110, 116, 101, 110, 116, 45, 76, 101, 110, 103, 116, 104, 58, 32, 50, 13, 10, 13, 10, 104, 105, 71, 69]⟩] W (Feed9Ends (awG, [awM1], 0) none [] W)) := Lib.hid (fun W m => by
    have := pfeed9_c (newR false []) ⟨none, 0, 0⟩ awP W (fs_zero _) (sm_new _ _) (by decide) m
    rw [aw9_1] at this
    exact this)
  have H2 : Hid (∀ S W, Fs W S (mkF awG.now.fs) → Mx W → Calls Tryz.prog 19 #[.agg (rcs awG S), .string ⟨#[84, 32, 47, 97, 32, 72, 84, 84, 80, 47, 49, 46, 48, 13, 10, 13, 10]⟩] W (Feed9Ends (newR false [], [awM2], 0) none [] W)) := Lib.hid (fun S W h m => by
    have := pfeed9_c awG S awQ W h (sm_of_ok aw9_7) (by decide) m
    rw [aw9_2] at this
    exact this)
  have H3 : Hid (∀ W, Mx W → Calls Tryz.prog 19 #[.agg (rcs (newR true [71, 69, 84]) ⟨none, 0, 0⟩), .string ⟨#[72, 84, 84, 80, 47, 49, 46, 48, 32, 50, 48, 48, 32, 79, 75, 13, 10, 13, 10, 97, 98]⟩] W (Feed9Ends (awA, [], 0) none [] W)) := Lib.hid (fun W m => by
    have := pfeed9_c (newR true [71, 69, 84]) ⟨none, 0, 0⟩ awS W (fs_zero _) (sm_new _ _) (by decide) m
    rw [aw9_3] at this
    exact this)
  have H4 : Hid (∀ S W, Fs W S (mkF awA.now.fs) → Calls Tryz.prog 26 #[.agg (rcs awA S)] W (End9Ends (awM3, true, 0) W)) := Lib.hid (fun S W h => by rw [← aw9_4]; exact pend9_c awA S W h (sm_of_ok aw9_9))
  have H5 : Hid (∀ S W, Fs W S (mkF awG.now.fs) → Calls Tryz.prog 26 #[.agg (rcs awG S)] W (End9Ends (Mg.zero, false, 22) W)) := Lib.hid (fun S W h => by rw [← aw9_5]; exact pend9_c awG S W h (sm_of_ok aw9_7))
  have H6 : Hid (∀ W, Tabs W → Calls Tryz.prog 17 #[.agg #[.string ⟨#[]⟩, .string ⟨#[]⟩, .int .i64 200, .string ⟨#[]⟩, .int .i64 1, .slice none 0 0, .string ⟨#[120]⟩], .bool true] W (fun E w' => E = .returned (.tuple #[.string ⟨#[72, 84, 84, 80, 47, 49, 46, 49, 32, 50, 48, 48, 32, 13, 10, 67, 111, 110, 116, 101, 110, 116, 45, 76, 101, 110, 103, 116, 104, 58, 32, 49, 13, 10, 13, 10, 120]⟩, .int .i64 0]) ∧ Below W.heap.size W w')) := Lib.hid (fun W hW => by
    refine (pprint9_c awM4 ⟨none, 0, 0⟩ true W (fs_zero _) ⟨by decide, by decide, by decide, by decide, fun f h => by cases h⟩ hW).mono ?_
    rintro E w' ⟨s, rfl, hs, hb⟩
    rw [aw9_6] at hs ⊢
    obtain rfl : s = ⟨#[72, 84, 84, 80, 47, 49, 46, 49, 32, 50, 48, 48, 32, 13, 10, 67, 111, 110, 116, 101, 110, 116, 45, 76, 101, 110, 103, 116, 104, 58, 32, 49, 13, 10, 13, 10, 120]⟩ := dl_inj hs
    exact ⟨rfl, hb⟩)
  have H7 : Hid (∀ S W, Fs W S (mkF awG.now.fs) → Calls Tryz.prog 27 #[.agg (rcs awG S)] W (BoolEnds true W)) := Lib.hid (fun S W h => by
    have := pright9_c awG S W h (sm_of_ok aw9_7)
    rw [decide_eq_true aw9_7] at this
    exact this)
  have H8 : Hid (∀ W, Calls Tryz.prog 27 #[.agg #[.bool false, .string ⟨#[]⟩, .string ⟨#[]⟩, .int .i64 0, .int .i64 0, .string ⟨#[120]⟩, .int .i64 0, .int .i64 0, .string ⟨#[]⟩, .int .i64 0, .string ⟨#[]⟩, .string ⟨#[]⟩, .int .i64 0, .string ⟨#[]⟩, .int .i64 0, .slice none 0 0, .int .i64 0]] W (BoolEnds false W)) := Lib.hid (fun W => by
    have := pright9_c awX ⟨none, 0, 0⟩ W (fs_zero _) (sm_mk (by decide) (by decide) (by decide) sm_zero)
    rw [aw9_8] at this
    exact this)
  go_enter Tryz.func11, Tryz.ntmps11
  go_wp2_with fail
  refine (HN1.out _).mono ?_
  rintro E w1 ⟨rfl, hb1⟩
  go_wp2_with fail
  refine (H1.out _ (HTb.out.up hb1).mx).mono ?_
  rintro E w2 ⟨S1, O1, ms1, rfl, hF1, -, hM1, hm1, hb2⟩
  simp only at hF1 hm1 ⊢
  obtain ⟨T1, rfl⟩ := map_one hm1
  clear hm1
  have hc := bon hb1 hb2
  clear hb1 hb2
  go_upto_region 2 with fail
  have hbA : Below w2.heap.size w2 ((w2.alloc (.cells #[.bool false, .string ⟨#[]⟩, .string ⟨#[]⟩, .int .i64 0, .int .i64 0, .string ⟨#[]⟩, .int .i64 0, .int .i64 0, .string ⟨#[]⟩, .int .i64 0, .string ⟨#[]⟩, .string ⟨#[]⟩, .int .i64 0, .string ⟨#[]⟩, .int .i64 0, .slice none 0 0, .int .i64 0] 32)).setRow w2.heap.size (rcs awG S1)) := below_row (ba1 w2 _) (Nat.le_refl _) _
  have b1 := box_row (rcs awG S1) (Box.new w2 32 #[.bool false, .string ⟨#[]⟩, .string ⟨#[]⟩, .int .i64 0, .int .i64 0, .string ⟨#[]⟩, .int .i64 0, .int .i64 0, .string ⟨#[]⟩, .int .i64 0, .string ⟨#[]⟩, .string ⟨#[]⟩, .int .i64 0, .string ⟨#[]⟩, .int .i64 0, .slice none 0 0, .int .i64 0])
  have hu := bon hc hbA

  replace hF1 := hF1.up hbA
  replace hM1 := hM1.up hbA
  have hd := bon (Below.refl _ _) hu
  obtain ⟨g1, hg⟩ : ∃ k, w2.heap.size = k := ⟨_, rfl⟩
  rw [hg] at b1 hd hF1 hM1 ⊢
  clear hg hu hbA hc
  generalize (w2.alloc (.cells #[.bool false, .string ⟨#[]⟩, .string ⟨#[]⟩, .int .i64 0, .int .i64 0, .string ⟨#[]⟩, .int .i64 0, .int .i64 0, .string ⟨#[]⟩, .int .i64 0, .string ⟨#[]⟩, .string ⟨#[]⟩, .int .i64 0, .string ⟨#[]⟩, .int .i64 0, .slice none 0 0, .int .i64 0] 32)).setRow g1 (rcs awG S1) = W1 at *
  have hpg : hpat W1 g1 = some (.cells (rcs awG S1) 32 (0, 0)) := b1
  go_wp2_with fail
  refine (H2.out S1 _ hF1 (HTb.out.up hd).mx).mono ?_
  rintro E w3 ⟨S2, O2, ms2, rfl, hF2, -, hM2, hm2, hc⟩
  simp only at hF2 hm2 ⊢
  obtain ⟨T2, rfl⟩ := map_one hm2
  clear hm2 hpg hF2
  go_upto_region 3 with fail
  have hbA : Below w3.heap.size w3 ((w3.alloc (.cells #[.bool false, .string ⟨#[]⟩, .string ⟨#[]⟩, .int .i64 0, .int .i64 0, .string ⟨#[]⟩, .int .i64 0, .int .i64 0, .string ⟨#[]⟩, .int .i64 0, .string ⟨#[]⟩, .string ⟨#[]⟩, .int .i64 0, .string ⟨#[]⟩, .int .i64 0, .slice none 0 0, .int .i64 0] 32)).setRow w3.heap.size (rcs (newR false []) S2)) := below_row (ba1 w3 _) (Nat.le_refl _) _
  have b2 := box_row (rcs (newR false []) S2) (Box.new w3 32 #[.bool false, .string ⟨#[]⟩, .string ⟨#[]⟩, .int .i64 0, .int .i64 0, .string ⟨#[]⟩, .int .i64 0, .int .i64 0, .string ⟨#[]⟩, .int .i64 0, .string ⟨#[]⟩, .string ⟨#[]⟩, .int .i64 0, .string ⟨#[]⟩, .int .i64 0, .slice none 0 0, .int .i64 0])
  have hu := bon hc hbA
  replace b1 := b1.up hu
  replace hF1 := hF1.up hu
  replace hM1 := hM1.up hu
  replace hM2 := hM2.up hbA
  replace hd := bon hd hu
  obtain ⟨g2, hg⟩ : ∃ k, w3.heap.size = k := ⟨_, rfl⟩
  rw [hg] at b2 hd b1 hF1 hM1 hM2 ⊢
  clear hg hu hbA hc
  generalize (w3.alloc (.cells #[.bool false, .string ⟨#[]⟩, .string ⟨#[]⟩, .int .i64 0, .int .i64 0, .string ⟨#[]⟩, .int .i64 0, .int .i64 0, .string ⟨#[]⟩, .int .i64 0, .string ⟨#[]⟩, .string ⟨#[]⟩, .int .i64 0, .string ⟨#[]⟩, .int .i64 0, .slice none 0 0, .int .i64 0] 32)).setRow g2 (rcs (newR false []) S2) = W2 at *
  clear b2
  go_wp2_with fail
  refine (HN2.out _).mono ?_
  rintro E w4 ⟨rfl, hb1⟩
  go_wp2_with fail
  refine (H3.out _ (HTb.out.up (bon hd hb1)).mx).mono ?_
  rintro E w5 ⟨S3, O3, ms3, rfl, hF3, -, -, -, hb2⟩
  simp only at hF3 ⊢
  have hc := bon hb1 hb2
  clear hb1 hb2
  go_upto_region 4 with fail
  have hbA : Below w5.heap.size w5 ((w5.alloc (.cells #[.bool false, .string ⟨#[]⟩, .string ⟨#[]⟩, .int .i64 0, .int .i64 0, .string ⟨#[]⟩, .int .i64 0, .int .i64 0, .string ⟨#[]⟩, .int .i64 0, .string ⟨#[]⟩, .string ⟨#[]⟩, .int .i64 0, .string ⟨#[]⟩, .int .i64 0, .slice none 0 0, .int .i64 0] 32)).setRow w5.heap.size (rcs awA S3)) := below_row (ba1 w5 _) (Nat.le_refl _) _
  have b3 := box_row (rcs awA S3) (Box.new w5 32 #[.bool false, .string ⟨#[]⟩, .string ⟨#[]⟩, .int .i64 0, .int .i64 0, .string ⟨#[]⟩, .int .i64 0, .int .i64 0, .string ⟨#[]⟩, .int .i64 0, .string ⟨#[]⟩, .string ⟨#[]⟩, .int .i64 0, .string ⟨#[]⟩, .int .i64 0, .slice none 0 0, .int .i64 0])
  have hu := bon hc hbA
  replace b1 := b1.up hu
  replace hF1 := hF1.up hu
  replace hM1 := hM1.up hu
  replace hM2 := hM2.up hu
  replace hF3 := hF3.up hbA
  replace hd := bon hd hu
  obtain ⟨g3, hg⟩ : ∃ k, w5.heap.size = k := ⟨_, rfl⟩
  rw [hg] at b3 hd b1 hF1 hM1 hM2 hF3 ⊢
  clear hg hu hbA hc
  generalize (w5.alloc (.cells #[.bool false, .string ⟨#[]⟩, .string ⟨#[]⟩, .int .i64 0, .int .i64 0, .string ⟨#[]⟩, .int .i64 0, .int .i64 0, .string ⟨#[]⟩, .int .i64 0, .string ⟨#[]⟩, .string ⟨#[]⟩, .int .i64 0, .string ⟨#[]⟩, .int .i64 0, .slice none 0 0, .int .i64 0] 32)).setRow g3 (rcs awA S3) = W3 at *
  have hpg : hpat W3 g3 = some (.cells (rcs awA S3) 32 (0, 0)) := b3
  go_wp2_with fail
  refine (H4.out S3 _ hF3).mono ?_
  rintro E w6 ⟨T3, rfl, -, hc⟩
  simp only
  clear hpg hF3
  go_upto_region 5 with fail
  have hbA : Below w6.heap.size w6 ((w6.alloc (.cells #[.string ⟨#[]⟩, .string ⟨#[]⟩, .int .i64 0, .string ⟨#[]⟩, .int .i64 0, .slice none 0 0, .string ⟨#[]⟩] 49)).setRow w6.heap.size (mca awM3 T3)) := below_row (ba1 w6 _) (Nat.le_refl _) _
  have b4 := box_row (mca awM3 T3) (Box.new w6 49 #[.string ⟨#[]⟩, .string ⟨#[]⟩, .int .i64 0, .string ⟨#[]⟩, .int .i64 0, .slice none 0 0, .string ⟨#[]⟩])
  have hu := bon hc hbA
  replace b1 := b1.up hu
  replace hF1 := hF1.up hu
  replace hM1 := hM1.up hu
  replace hM2 := hM2.up hu

  replace hd := bon hd hu
  obtain ⟨g4, hg⟩ : ∃ k, w6.heap.size = k := ⟨_, rfl⟩
  rw [hg] at b4 hd b1 hF1 hM1 hM2 ⊢
  clear hg hu hbA hc
  generalize (w6.alloc (.cells #[.string ⟨#[]⟩, .string ⟨#[]⟩, .int .i64 0, .string ⟨#[]⟩, .int .i64 0, .slice none 0 0, .string ⟨#[]⟩] 49)).setRow g4 (mca awM3 T3) = W4 at *
  clear b3
  have hpg : hpat W4 g1 = some (.cells (rcs awG S1) 32 (0, 0)) := b1
  go_wp2_with fail
  refine (H5.out S1 _ hF1).mono ?_
  rintro E w7 ⟨T4, rfl, -, hc⟩
  simp only
  clear hpg
  go_upto_region 6 with fail
  have hbA : Below w7.heap.size w7 ((w7.alloc (.cells #[.string ⟨#[]⟩, .string ⟨#[]⟩, .int .i64 0, .string ⟨#[]⟩, .int .i64 0, .slice none 0 0, .string ⟨#[]⟩] 49)).setRow w7.heap.size (mca Mg.zero T4)) := below_row (ba1 w7 _) (Nat.le_refl _) _
  have b5 := box_row (mca Mg.zero T4) (Box.new w7 49 #[.string ⟨#[]⟩, .string ⟨#[]⟩, .int .i64 0, .string ⟨#[]⟩, .int .i64 0, .slice none 0 0, .string ⟨#[]⟩])
  have hu := bon hc hbA
  replace b1 := b1.up hu
  replace hF1 := hF1.up hu
  replace hM1 := hM1.up hu
  replace hM2 := hM2.up hu
  replace b4 := b4.up hu

  replace hd := bon hd hu
  obtain ⟨g5, hg⟩ : ∃ k, w7.heap.size = k := ⟨_, rfl⟩
  rw [hg] at b5 hd b1 hF1 hM1 hM2 b4 ⊢
  clear hg hu hbA hc
  generalize (w7.alloc (.cells #[.string ⟨#[]⟩, .string ⟨#[]⟩, .int .i64 0, .string ⟨#[]⟩, .int .i64 0, .slice none 0 0, .string ⟨#[]⟩] 49)).setRow g5 (mca Mg.zero T4) = W5 at *
  clear b5
  go_wp2_with fail
  refine (H6.out _ (HTb.out.up hd)).mono ?_
  rintro E w8 ⟨rfl, hc⟩
  replace b1 := b1.up hc
  replace hF1 := hF1.up hc
  replace hM1 := hM1.up hc
  replace hM2 := hM2.up hc
  replace b4 := b4.up hc
  replace hd := bon hd hc
  clear hc
  obtain ⟨A1, n1, c1⟩ := O1
  obtain ⟨rfl, x1, y1, hA1, hx1⟩ := ms_cells hM1
  obtain rfl := hA1
  obtain ⟨A2, n2, c2⟩ := O2
  obtain ⟨rfl, x2, y2, hA2, hx2⟩ := ms_cells hM2
  obtain rfl := hA2
  have k1 : w8.cell? ⟨x1, y1 + 6, none⟩ = some (.string ⟨#[104, 105]⟩) := hx1 6 _ rfl
  have k2 : w8.cell? ⟨x2, y2 + 1, none⟩ = some (.string ⟨#[47, 97]⟩) := hx2 1 _ rfl
  have k3 : w8.cell? ⟨g1, 2, none⟩ = some (.string ⟨#[71, 69]⟩) := b1.c 2 rfl
  have k4 : w8.cell? ⟨g4, 6, none⟩ = some (.string ⟨#[97, 98]⟩) := b4.c 6 rfl
  have hpg : hpat w8 g1 = some (.cells (rcs awG S1) 32 (0, 0)) := b1
  clear hx1 hx2 hM1 hM2 b4
  go_wp2_with fail
  refine (H7.out S1 _ hF1).mono ?_
  rintro E w9 ⟨rfl, hc⟩
  replace hd := bon hd hc
  clear hc hpg k1 k2 k3 k4 hF1 b1
  go_wp2_with fail
  refine (H8.out _).mono ?_
  rintro E w10 ⟨rfl, hc⟩
  replace hd := bon hd hc
  clear hc
  go_wp2
  go_ret
  exact ⟨by first | rfl | simp, hd⟩
end Go.Proofs.YtdlihfbaepjliaaGreatDoor
