/-
  The document's own reader: one of three words.
-/
import Derived.Test.YtnkhghjcfhpeiaaGreatDoorXc
import Derived.Test.YtnkhghjcfhpeiaaGreatDoorJPn
namespace Go.Proofs.YtnkhghjcfhpeiaaGreatDoor
open Go.RowKit
def lsW : List Bs := [[110, 117, 108, 108], [102, 97, 108, 115, 101], [116, 114, 117, 101]]
theorem wpre_iff (x l : Bs) : (x.isPrefixOf l = true) = (l.take x.length = x) := by
  rw [eq_iff_iff, List.isPrefixOf_iff_prefix, List.prefix_iff_eq_take]
  exact ⟨fun h => h.symm, fun h => h.symm⟩
theorem word_at {m i : Nat} {l x : Bs} (hx : lsW[i]? = some x) (hb : ∀ k, k < i → ∀ y, lsW[k]? = some y → l.take y.length ≠ y) (h : l.take x.length = x) : wordR m l = .ok (.mk ((i : Int) + 1) [] [] [], m, l.drop x.length) := by
  have h3 : i < 3 := (List.getElem?_eq_some_iff.1 hx).1
  unfold wordR
  simp only [wpre_iff]
  have hi : i = 0 ∨ i = 1 ∨ i = 2 := by omega
  rcases hi with rfl | rfl | rfl
  · obtain rfl := Option.some.inj hx
    rw [if_pos h]
    rfl
  · obtain rfl := Option.some.inj hx
    rw [if_neg (hb 0 (by omega) _ rfl), if_pos h]
    rfl
  · obtain rfl := Option.some.inj hx
    rw [if_neg (hb 0 (by omega) _ rfl), if_neg (hb 1 (by omega) _ rfl), if_pos h]
    rfl
theorem word_no {m : Nat} {l : Bs} (hb : ∀ k, k < 3 → ∀ y, lsW[k]? = some y → l.take y.length ≠ y) : wordR m l = .error (31, l) := by
  unfold wordR
  simp only [wpre_iff]
  rw [if_neg (hb 0 (by omega) _ rfl), if_neg (hb 1 (by omega) _ rfl), if_neg (hb 2 (by omega) _ rfl)]
/-- how a value that was read, or an error, leaves the reader -/
def ResD (res : Res) (v : Jv) (m : Nat) (l : Bs) (e : Int) : Prop := match res with
  | .error (e', r) => l = r ∧ e = e' ∧ e ≠ 0
  | .ok (v', m', r) => v = v' ∧ m = m' ∧ l = r ∧ e = 0
/-- a value is handed back, right or not, in memory of its own -/
def VdE (g : Nat) (s : Bs) (res : Res) (w : World) (E : Ending) (w' : World) : Prop := ∃ (v : Jv) (K S : Sli) (m : Nat) (l : Bs) (e : Int), ResD res v m l e ∧ m ≤ 1000 ∧ JV w' (fun b => w.heap.size ≤ b) v (jx v K S) ∧ DEnds g s w (jx v K S) l m e E w'
/-- a reader that lies elsewhere than a struct that is stored -/
theorem ds_far4 {w : World} {g gr : Nat} {s l : Bs} {m : Nat} {e : Int} (h : DS w g s l m e) (hne : g ≠ gr) (u0 u1 u2 u3 : Value) : DS ((((w.setCell ⟨gr, 0, none⟩ u0).setCell ⟨gr, 1, none⟩ u1).setCell ⟨gr, 2, none⟩ u2).setCell ⟨gr, 3, none⟩ u3) g s l m e :=
  ⟨box_far4 h.bx hne u0 u1 u2 u3, h.suf, h.le⟩
theorem lw_cell {W : World} {b i : Nat} {x : Bs} (h : Box W b 9 #[.string ⟨#[110, 117, 108, 108]⟩, .string ⟨#[102, 97, 108, 115, 101]⟩, .string ⟨#[116, 114, 117, 101]⟩]) (hx : lsW[i]? = some x) : W.cell? ⟨b, i, none⟩ = some (.string (tb x)) := by
  have h3 : i < 3 := (List.getElem?_eq_some_iff.1 hx).1
  have hi : i = 0 ∨ i = 1 ∨ i = 2 := by omega
  rcases hi with rfl | rfl | rfl
  · obtain rfl := Option.some.inj hx
    exact h.c 0 rfl
  · obtain rfl := Option.some.inj hx
    exact h.c 1 rfl
  · obtain rfl := Option.some.inj hx
    exact h.c 2 rfl
set_option maxRecDepth 100000 in
set_option maxHeartbeats 4000000 in
theorem sword_ok (g : Nat) (s l : Bs) (m : Nat) (w : World) (hm : m ≤ 1000) (hs : s.length ≤ 1000000) (h : DS w g s l m 0) : Calls Tryz.prog 55 #[.pointer (some ⟨g, 0, none⟩)] w (VdE g s (wordR m l) w) := by
  have zs : (tb s).size = s.length := tb_size s
  obtain ⟨I, hI⟩ : ∃ I, wordR m l = I := ⟨_, rfl⟩
  rw [hI]
  have HI := Lib.hid hI
  clear hI
  obtain ⟨gr, hgr⟩ : ∃ gr, w.heap.size = gr := ⟨_, rfl⟩
  have b1 := ba1 w (.cells #[.int .i64 0, .string ⟨#[]⟩, .slice none 0 0, .slice none 0 0] 25)
  have x1 := Box.mk' w 25 #[.int .i64 0, .string ⟨#[]⟩, .slice none 0 0, .slice none 0 0] gr hgr
  obtain ⟨W1, hW1⟩ : ∃ W1, w.alloc (.cells #[.int .i64 0, .string ⟨#[]⟩, .slice none 0 0, .slice none 0 0] 25) = W1 := ⟨_, rfl⟩
  rw [hW1] at b1 x1
  have s1 : W1.heap.size = gr + 1 := by rw [← hW1]; show (w.heap.push _).size = _; simp [hgr]
  have b2 := ba1 W1 (.cells #[.string ⟨#[110, 117, 108, 108]⟩, .string ⟨#[102, 97, 108, 115, 101]⟩, .string ⟨#[116, 114, 117, 101]⟩] 9)
  have x2 := Box.mk' W1 9 #[.string ⟨#[110, 117, 108, 108]⟩, .string ⟨#[102, 97, 108, 115, 101]⟩, .string ⟨#[116, 114, 117, 101]⟩] (gr + 1) s1
  obtain ⟨W2, hW2⟩ : ∃ W2, W1.alloc (.cells #[.string ⟨#[110, 117, 108, 108]⟩, .string ⟨#[102, 97, 108, 115, 101]⟩, .string ⟨#[116, 114, 117, 101]⟩] 9) = W2 := ⟨_, rfl⟩
  rw [hW2] at b2 x2
  have HX1 := Lib.hid (x1.up b2)
  have HX2 := Lib.hid x2
  have HB0 : Hid (Below w.heap.size w W2) := Lib.hid (bon b1 b2)
  have HD := Lib.hid ((h.up b1).up b2)
  have HG : Hid (g < gr) := Lib.hid (by rw [← hgr]; exact h.lt)
  have hHg : Hid (w.heap.size = gr) := Lib.hid hgr
  clear h b1 b2 x1 x2
  go_enter Tryz.func55, Tryz.ntmps55
  go_wp2_with fail
  clear hW1 hW2 s1
  go_loopw [4, 5] (fun i _ wr => ∃ j : Nat, j ≤ 3 ∧ i = .int .i64 (j : Int) ∧ Hid (∀ k, k < j → ∀ y, lsW[k]? = some y → l.take y.length ≠ y) ∧ Hid (Below W2.heap.size W2 wr)) (fun i _ _ => 3 - (intOf i).toNat)
  case atStart => exact ⟨0, by omega, rfl, Lib.hid (fun k hk => absurd hk (by omega)), Lib.hid (Below.refl _ _)⟩
  case round =>
    obtain ⟨j, hj, rfl, HJ, HB⟩ := hrel
    have HDr := Lib.hid (HD.out.up HB.out)
    obtain ⟨c0, c1, c2, c3⟩ := HDr.out.cells
    have hsf := HDr.out.suf
    have hle := HDr.out.le
    obtain ⟨p, hp⟩ : ∃ p, s.length - l.length = p := ⟨_, rfl⟩
    rw [hp] at c1 hsf
    have HPq := Lib.hid hp
    obtain ⟨L, hL⟩ : ∃ L, l.length = L := ⟨_, rfl⟩
    have hLp : s.length - p = L := by omega
    have hw1 : IntKind.i64.wrap ((s.length : Int) - (p : Int)) = (L : Int) := by rw [IntWalk.i64_in _ (by omega)]; omega
    by_cases hlt : j < 3
    case pos =>
      have hji : (j : Int) < 3 := by omega
      have hj0 : (0 : Int) ≤ (j : Int) := by omega
      obtain ⟨x, hx⟩ : ∃ x, lsW[j]? = some x := ⟨_, List.getElem?_eq_getElem (show j < 3 from hlt)⟩
      have kx := lw_cell (HX2.out.up HB.out) hx
      obtain ⟨n, hn⟩ : ∃ n, x.length = n := ⟨_, rfl⟩
      have hn5 : n ≤ 5 := by
        rw [← hn]
        have := (show ∀ y ∈ lsW, y.length ≤ 5 by decide) x (List.mem_of_getElem? hx)
        exact this
      have zx : (tb x).size = n := by rw [tb_size, hn]
      have Hx := Lib.hid hx
      have Hn := Lib.hid hn
      by_cases hnl : n ≤ L
      case neg =>
        have hnd : decide (n ≤ L) = false := decide_eq_false hnl
        have hni : ¬ (n : Int) ≤ (L : Int) := by omega
        have HJ1 : Hid (∀ k, k < j + 1 → ∀ y, lsW[k]? = some y → l.take y.length ≠ y) := Lib.hid (fun k hk y hy => by
          by_cases hkj : k < j
          · exact HJ.out k hkj y hy
          · obtain rfl : k = j := by omega
            rw [hx] at hy
            obtain rfl := Option.some.inj hy
            intro e
            have := congrArg List.length e
            rw [List.length_take] at this
            omega)
        clear hx hn hp hL hLp hle hsf HJ hlt
        go_wp2_with fail
        go_quiet (fail)
        rename_i nq
        have hbq := below_drewN (Below.refl wr.heap.size wr) nq
        have HB3 := Lib.hid (bon HB.out hbq)
        clear c0 c1 c2 c3 hbq kx
        go_wp2
        go_roundw
        case rel => exact ⟨j + 1, by omega, by go_num, HJ1, HB3⟩
        case measure => simp [intOf]; omega
      case pos =>
        have hnd : decide (n ≤ L) = true := decide_eq_true hnl
        have hni : (n : Int) ≤ (L : Int) := by omega
        obtain ⟨hn1, hn2⟩ := nq_len hsf (n := n) (by omega) (by omega)
        obtain ⟨p1, hp1⟩ : ∃ p1, p + n = p1 := ⟨_, rfl⟩
        have hxe : (tb s).extract p p1 = tb (l.take n) := by rw [tb_ext, ← hp1, List.take_add, List.drop_append_of_le_length (by rw [List.length_take]; omega), List.drop_of_length_le (by rw [List.length_take]; omega), hsf]; rfl
        rw [hp1] at hn1 hn2
        have hwp : IntKind.i64.wrap ((p : Int) + (n : Int)) = (p1 : Int) := by rw [IntWalk.i64_in _ (by omega)]; omega
        have hpp1 : (p : Int) ≤ (p1 : Int) := by omega
        have hps1 : (p1 : Int) ≤ (s.length : Int) := by omega
        have hpp2 : p ≤ p1 := by omega
        have HSet := Lib.hid (fun W (h : DS W g s l m 0) => h.setp hn1 hn2)
        have heq : ((tb (l.take n)).toList == (tb x).toList) = decide (l.take n = x) := by rw [← beq_toListBytes, tb_beq]
        by_cases hpx : l.take n = x
        case neg =>
          rw [decide_eq_false hpx] at heq
          have HJ1 : Hid (∀ k, k < j + 1 → ∀ y, lsW[k]? = some y → l.take y.length ≠ y) := Lib.hid (fun k hk y hy => by
            by_cases hkj : k < j
            · exact HJ.out k hkj y hy
            · obtain rfl : k = j := by omega
              rw [hx] at hy
              obtain rfl := Option.some.inj hy
              rw [hn]
              exact hpx)
          clear hx hn hp hL hLp hle hsf HJ hlt hp1 hn1 hn2 hpx
          go_wp2_with fail
          go_quiet (fail)
          rename_i nq
          have hbq := below_drewN (Below.refl wr.heap.size wr) nq
          have HB3 := Lib.hid (bon HB.out hbq)
          clear c0 c1 c2 c3 hbq kx
          go_wp2
          go_roundw
          case rel => exact ⟨j + 1, by omega, by go_num, HJ1, HB3⟩
          case measure => simp [intOf]; omega
        case pos =>
          rw [decide_eq_true hpx] at heq
          have hq : I = .ok (.mk ((j : Int) + 1) [] [] [], m, l.drop n) := by rw [← HI.out, ← hn]; exact word_at hx HJ.out (by rw [hn]; exact hpx)
          subst hq
          have hwj : IntKind.i64.wrap (1 + (j : Int)) = (j : Int) + 1 := by rw [IntWalk.i64_in _ (by omega)]; omega
          clear hx hn hp hL hLp hle hsf HJ hlt hp1 hn1 hn2 hpx HI
          go_wp2_with fail
          go_quiet (fail)
          rename_i nq
          have hbq := below_drewN (Below.refl wr.heap.size wr) nq
          have HD3 := Lib.hid (HDr.out.up hbq)
          have HB3 := Lib.hid (bon HB.out hbq)
          clear HDr c0 c1 c2 c3 hbq kx HD
          generalize wr.drewN nq = W5 at *
          have HD5 := Lib.hid (HSet.out W5 HD3.out)
          have HX5 := Lib.hid ((HX1.out.up HB3.out).far (p := ⟨g, 1, none⟩) (by have := HG.out; simp only; omega) (.int .i64 (p1 : Int)))
          have HB5 := Lib.hid ((But.of (g := g) (bon HB0.out HB3.out)).on (but_cell W5 g 1 (.int .i64 (p1 : Int))))
          have f1 := HD3.out.bx.f 1
          obtain ⟨c0, c1, c2, c3⟩ := HD3.out.cells
          rw [HPq.out] at c1
          go_upto_region 8 with fail
          clear c0 c1 c2 c3 f1 HD3 HB3 HB
          generalize W5.setCell ⟨g, 1, none⟩ (.int .i64 (p1 : Int)) = W6 at *
          obtain ⟨d0, d1, d2, d3⟩ := box4 HX5.out
          have f0 := HX5.out.f 0
          have f1 := HX5.out.f 1
          have f2 := HX5.out.f 2
          have f3 := HX5.out.f 3
          obtain ⟨q0, q1, q2, q3⟩ := box4 (box_set4 HX5.out (.int .i64 ((j : Int) + 1)) (.string ⟨#[]⟩) (.slice none 0 0) (.slice none 0 0))
          have HBt := Lib.hid (but_set4 (gr := gr) HB5.out (by have := hHg.out; omega) (.int .i64 ((j : Int) + 1)) (.string ⟨#[]⟩) (.slice none 0 0) (.slice none 0 0))
          have HDt := Lib.hid (ds_far4 (gr := gr) HD5.out (by have := HG.out; omega) (.int .i64 ((j : Int) + 1)) (.string ⟨#[]⟩) (.slice none 0 0) (.slice none 0 0))
          clear HX5 HB5 HD5
          go_wp2
          refine bodyPost_ret (v := .agg #[(.int .i64 ((j : Int) + 1)), .string ⟨#[]⟩, .slice none 0 0, .slice none 0 0]) (by simp [results, Tryz.results55, go_sem, q0, q1, q2, q3]) rfl ?_
          exact ⟨.mk ((j : Int) + 1) [] [] [], ⟨none, 0, 0⟩, ⟨none, 0, 0⟩, m, _, 0, ⟨rfl, rfl, rfl, rfl⟩, hm, jleaf _ _ _ _, rfl, HBt.out, HDt.out⟩
    case neg =>
      have hj3 : j = 3 := by omega
      subst hj3
      have hq : I = .error (31, l) := by rw [← HI.out]; exact word_no HJ.out
      subst hq
      have HF := Lib.hid (sfail_any g s l m 0 31 wr HDr.out)
      clear hlt HI HJ hw1 hLp hL hsf hle hp c0 c1 c2 c3
      go_wp2_with fail
      refine HF.out.mono ?_
      rintro E w3 ⟨rfl, hb, hd⟩
      have HB4 := Lib.hid ((But.of (g := g) (bon HB0.out HB.out)).on hb)
      have HX3 := Lib.hid ((HX1.out.up HB.out).but hb (by have := HG.out; omega))
      have HD4 := Lib.hid hd
      clear hb hd HF
      obtain ⟨d0, d1, d2, d3⟩ := box4 HX3.out
      have f0 := HX3.out.f 0
      have f1 := HX3.out.f 1
      have f2 := HX3.out.f 2
      have f3 := HX3.out.f 3
      obtain ⟨q0, q1, q2, q3⟩ := box4 (box_set4 HX3.out (.int .i64 0) (.string ⟨#[]⟩) (.slice none 0 0) (.slice none 0 0))
      have HBt := Lib.hid (but_set4 (gr := gr) HB4.out (by have := hHg.out; omega) (.int .i64 0) (.string ⟨#[]⟩) (.slice none 0 0) (.slice none 0 0))
      have HDt := Lib.hid (ds_far4 (gr := gr) HD4.out (by have := HG.out; omega) (.int .i64 0) (.string ⟨#[]⟩) (.slice none 0 0) (.slice none 0 0))
      clear HX3 HB4 HD4
      go_wp2
      refine bodyPost_ret (v := .agg #[(.int .i64 0), .string ⟨#[]⟩, .slice none 0 0, .slice none 0 0]) (by simp [results, Tryz.results55, go_sem, q0, q1, q2, q3]) rfl ?_
      exact ⟨.zero, ⟨none, 0, 0⟩, ⟨none, 0, 0⟩, m, l, 31, ⟨rfl, rfl, by decide⟩, hm, jleaf _ _ _ _, rfl, HBt.out, HDt.out⟩
end Go.Proofs.YtnkhghjcfhpeiaaGreatDoor
