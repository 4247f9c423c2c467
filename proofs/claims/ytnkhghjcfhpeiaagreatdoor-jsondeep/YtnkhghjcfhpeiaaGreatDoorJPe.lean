/-
  The program's null, no, yes, number, text of a reader, walked.
-/
import Derived.Test.YtnkhghjcfhpeiaaGreatDoorJQu
import Derived.Test.YtnkhghjcfhpeiaaGreatDoorJWords
import Derived.Test.YtnkhghjcfhpeiaaGreatDoorJJs
import Derived.Deep.Cut
import Derived.Test.YtnkhghjcfhpeiaaGreatDoorJQn
namespace Go.Proofs.YtnkhghjcfhpeiaaGreatDoor
open Go.RowKit
abbrev nilS : Sli := ⟨none, 0, 0⟩
theorem rs_far4 {w : World} {g gr h : Nat} {s l : Bs} {m o : Nat} {ty : TypeId} {cs : Array Value} (r : RS w g h s l m o) (hne : g ≠ gr) (hb : Box w gr ty cs) (u0 u1 u2 u3 : Value) :
    RS ((((w.setCell ⟨gr, 0, none⟩ u0).setCell ⟨gr, 1, none⟩ u1).setCell ⟨gr, 2, none⟩ u2).setCell ⟨gr, 3, none⟩ u3) g h s l m o := by
  refine ⟨box_far4 r.bx hne u0 u1 u2 u3, ?_⟩
  have hh : h ≠ gr := by
    intro e
    have h1 := r.mp
    unfold RMap at h1
    unfold Box at hb
    rw [e, hb] at h1
    cases h1
  have h1 := Below.heap_setCell w ⟨gr, 0, none⟩ u0 h hh
  have h2 := Below.heap_setCell (w.setCell ⟨gr, 0, none⟩ u0) ⟨gr, 1, none⟩ u1 h hh
  have h3 := Below.heap_setCell ((w.setCell ⟨gr, 0, none⟩ u0).setCell ⟨gr, 1, none⟩ u1) ⟨gr, 2, none⟩ u2 h hh
  have h4 := Below.heap_setCell (((w.setCell ⟨gr, 0, none⟩ u0).setCell ⟨gr, 1, none⟩ u1).setCell ⟨gr, 2, none⟩ u2) ⟨gr, 3, none⟩ u3 h hh
  exact h4.trans (h3.trans (h2.trans (h1.trans r.mp)))
/-- a value that was read -/
def valE (v : Jv) (res : Except (Int × Bs) (Value × Bs × Nat × Nat)) : Except (Int × Bs) (Value × Bs × Nat × Nat) := match res with
  | .error e => .error e
  | .ok (_, l, m, o) => .ok (jx v nilS nilS, l, m, o)
set_option maxRecDepth 100000 in
set_option maxHeartbeats 2000000 in
theorem null_any (g h : Nat) (s l : Bs) (m o : Nat) (w : World) (hs : s.length ≤ 1000000) (hl : l.length ≤ 1000000) (r : RS w g h s l m o) : Calls Tryz.prog 37 #[.pointer (some ⟨g, 0, none⟩)] w (RdEnds g h s w (valE (.mk 1 [] [] []) (needP [110, 117, 108, 108] l m o))) := by
  have hgl := r.lt
  have hbA := ba1 w (.cells #[.int .i64 0, .string ⟨#[]⟩, .slice none 0 0, .slice none 0 0] 25)
  have HB0 := Lib.hid (But.of (g := g) hbA)
  have HR0 := Lib.hid (r.up hbA)
  have bx := Lib.hid (Box.new w 25 #[.int .i64 0, .string ⟨#[]⟩, .slice none 0 0, .slice none 0 0])
  have HP : Hid (∀ W, RS W g h s l m o → Calls Tryz.prog 60 #[.pointer (some ⟨g, 0, none⟩), .string ⟨#[110, 117, 108, 108]⟩] W (RdEnds g h s W (needP [110, 117, 108, 108] l m o))) := Lib.hid (fun W r => pass_any g h s l [110, 117, 108, 108] m o W hs hl r)
  clear r hbA
  obtain ⟨gr, hgr⟩ : ∃ gr, w.heap.size = gr := ⟨_, rfl⟩
  go_enter Tryz.func37, Tryz.ntmps37
  go_wp2_with fail
  rw [hgr] at bx
  have HG : Hid (w.heap.size ≤ gr) := Lib.hid (by omega)
  clear hgr
  generalize w.alloc (.cells #[.int .i64 0, .string ⟨#[]⟩, .slice none 0 0, .slice none 0 0] 25) = W0 at *
  refine (HP.out _ HR0.out).mono ?_
  cases hn : needP [110, 117, 108, 108] l m o with
  | error e =>
    rintro E w1 ⟨rfl, hb⟩
    have HB1 := HB0.out.on hb
    go_wp2
    exact ⟨rfl, rfl, HB1⟩
  | ok q =>
    obtain ⟨v, l1, m1, o1⟩ := q
    rintro E w1 ⟨rfl, hb, hr1⟩
    have hv : v = .tuple #[] := by
      unfold needP at hn
      split at hn
      · injection hn with hn
        exact (Prod.mk.inj hn).1.symm
      · cases hn
    subst hv
    have HR1 := Lib.hid hr1
    have HB1 := Lib.hid (HB0.out.on hb)
    have bx1 := Lib.hid (bx.out.but hb (by have := HG.out; omega))
    have HN := Lib.hid hn
    clear hr1 hb bx HB0 HR0 hn
    obtain ⟨c0, c1, c2, c3⟩ := box4 bx1.out
    have f0 := bx1.out.f 0
    have f1 := bx1.out.f 1
    have f2 := bx1.out.f 2
    have f3 := bx1.out.f 3
    have b4 := box_set4 bx1.out (.int .i64 1) (.string ⟨#[]⟩) (.slice none 0 0) (.slice none 0 0)
    obtain ⟨q0, q1, q2, q3⟩ := box4 b4
    have hbut := but_set4 (gr := gr) HB1.out HG.out (.int .i64 1) (.string ⟨#[]⟩) (.slice none 0 0) (.slice none 0 0)
    have hrs := rs_far4 (gr := gr) HR1.out (by have := HG.out; omega) bx1.out (.int .i64 1) (.string ⟨#[]⟩) (.slice none 0 0) (.slice none 0 0)
    go_wp2
    refine bodyPost_ret (v := .agg #[.int .i64 1, .string ⟨#[]⟩, .slice none 0 0, .slice none 0 0]) (by simp [results, Tryz.results37, go_sem, q0, q1, q2, q3]) rfl ?_
    rw [HN.out]
    exact ⟨rfl, hbut, hrs⟩
set_option maxRecDepth 100000 in
set_option maxHeartbeats 2000000 in
theorem no_any (g h : Nat) (s l : Bs) (m o : Nat) (w : World) (hs : s.length ≤ 1000000) (hl : l.length ≤ 1000000) (r : RS w g h s l m o) : Calls Tryz.prog 38 #[.pointer (some ⟨g, 0, none⟩)] w (RdEnds g h s w (valE (.mk 2 [] [] []) (needP [102, 97, 108, 115, 101] l m o))) := by
  have hgl := r.lt
  have hbA := ba1 w (.cells #[.int .i64 0, .string ⟨#[]⟩, .slice none 0 0, .slice none 0 0] 25)
  have HB0 := Lib.hid (But.of (g := g) hbA)
  have HR0 := Lib.hid (r.up hbA)
  have bx := Lib.hid (Box.new w 25 #[.int .i64 0, .string ⟨#[]⟩, .slice none 0 0, .slice none 0 0])
  have HP : Hid (∀ W, RS W g h s l m o → Calls Tryz.prog 60 #[.pointer (some ⟨g, 0, none⟩), .string ⟨#[102, 97, 108, 115, 101]⟩] W (RdEnds g h s W (needP [102, 97, 108, 115, 101] l m o))) := Lib.hid (fun W r => pass_any g h s l [102, 97, 108, 115, 101] m o W hs hl r)
  clear r hbA
  obtain ⟨gr, hgr⟩ : ∃ gr, w.heap.size = gr := ⟨_, rfl⟩
  go_enter Tryz.func38, Tryz.ntmps38
  go_wp2_with fail
  rw [hgr] at bx
  have HG : Hid (w.heap.size ≤ gr) := Lib.hid (by omega)
  clear hgr
  generalize w.alloc (.cells #[.int .i64 0, .string ⟨#[]⟩, .slice none 0 0, .slice none 0 0] 25) = W0 at *
  refine (HP.out _ HR0.out).mono ?_
  cases hn : needP [102, 97, 108, 115, 101] l m o with
  | error e =>
    rintro E w1 ⟨rfl, hb⟩
    have HB1 := HB0.out.on hb
    go_wp2
    exact ⟨rfl, rfl, HB1⟩
  | ok q =>
    obtain ⟨v, l1, m1, o1⟩ := q
    rintro E w1 ⟨rfl, hb, hr1⟩
    have hv : v = .tuple #[] := by
      unfold needP at hn
      split at hn
      · injection hn with hn
        exact (Prod.mk.inj hn).1.symm
      · cases hn
    subst hv
    have HR1 := Lib.hid hr1
    have HB1 := Lib.hid (HB0.out.on hb)
    have bx1 := Lib.hid (bx.out.but hb (by have := HG.out; omega))
    have HN := Lib.hid hn
    clear hr1 hb bx HB0 HR0 hn
    obtain ⟨c0, c1, c2, c3⟩ := box4 bx1.out
    have f0 := bx1.out.f 0
    have f1 := bx1.out.f 1
    have f2 := bx1.out.f 2
    have f3 := bx1.out.f 3
    have b4 := box_set4 bx1.out (.int .i64 2) (.string ⟨#[]⟩) (.slice none 0 0) (.slice none 0 0)
    obtain ⟨q0, q1, q2, q3⟩ := box4 b4
    have hbut := but_set4 (gr := gr) HB1.out HG.out (.int .i64 2) (.string ⟨#[]⟩) (.slice none 0 0) (.slice none 0 0)
    have hrs := rs_far4 (gr := gr) HR1.out (by have := HG.out; omega) bx1.out (.int .i64 2) (.string ⟨#[]⟩) (.slice none 0 0) (.slice none 0 0)
    go_wp2
    refine bodyPost_ret (v := .agg #[.int .i64 2, .string ⟨#[]⟩, .slice none 0 0, .slice none 0 0]) (by simp [results, Tryz.results38, go_sem, q0, q1, q2, q3]) rfl ?_
    rw [HN.out]
    exact ⟨rfl, hbut, hrs⟩
set_option maxRecDepth 100000 in
set_option maxHeartbeats 2000000 in
theorem yes_any (g h : Nat) (s l : Bs) (m o : Nat) (w : World) (hs : s.length ≤ 1000000) (hl : l.length ≤ 1000000) (r : RS w g h s l m o) : Calls Tryz.prog 39 #[.pointer (some ⟨g, 0, none⟩)] w (RdEnds g h s w (valE (.mk 3 [] [] []) (needP [116, 114, 117, 101] l m o))) := by
  have hgl := r.lt
  have hbA := ba1 w (.cells #[.int .i64 0, .string ⟨#[]⟩, .slice none 0 0, .slice none 0 0] 25)
  have HB0 := Lib.hid (But.of (g := g) hbA)
  have HR0 := Lib.hid (r.up hbA)
  have bx := Lib.hid (Box.new w 25 #[.int .i64 0, .string ⟨#[]⟩, .slice none 0 0, .slice none 0 0])
  have HP : Hid (∀ W, RS W g h s l m o → Calls Tryz.prog 60 #[.pointer (some ⟨g, 0, none⟩), .string ⟨#[116, 114, 117, 101]⟩] W (RdEnds g h s W (needP [116, 114, 117, 101] l m o))) := Lib.hid (fun W r => pass_any g h s l [116, 114, 117, 101] m o W hs hl r)
  clear r hbA
  obtain ⟨gr, hgr⟩ : ∃ gr, w.heap.size = gr := ⟨_, rfl⟩
  go_enter Tryz.func39, Tryz.ntmps39
  go_wp2_with fail
  rw [hgr] at bx
  have HG : Hid (w.heap.size ≤ gr) := Lib.hid (by omega)
  clear hgr
  generalize w.alloc (.cells #[.int .i64 0, .string ⟨#[]⟩, .slice none 0 0, .slice none 0 0] 25) = W0 at *
  refine (HP.out _ HR0.out).mono ?_
  cases hn : needP [116, 114, 117, 101] l m o with
  | error e =>
    rintro E w1 ⟨rfl, hb⟩
    have HB1 := HB0.out.on hb
    go_wp2
    exact ⟨rfl, rfl, HB1⟩
  | ok q =>
    obtain ⟨v, l1, m1, o1⟩ := q
    rintro E w1 ⟨rfl, hb, hr1⟩
    have hv : v = .tuple #[] := by
      unfold needP at hn
      split at hn
      · injection hn with hn
        exact (Prod.mk.inj hn).1.symm
      · cases hn
    subst hv
    have HR1 := Lib.hid hr1
    have HB1 := Lib.hid (HB0.out.on hb)
    have bx1 := Lib.hid (bx.out.but hb (by have := HG.out; omega))
    have HN := Lib.hid hn
    clear hr1 hb bx HB0 HR0 hn
    obtain ⟨c0, c1, c2, c3⟩ := box4 bx1.out
    have f0 := bx1.out.f 0
    have f1 := bx1.out.f 1
    have f2 := bx1.out.f 2
    have f3 := bx1.out.f 3
    have b4 := box_set4 bx1.out (.int .i64 3) (.string ⟨#[]⟩) (.slice none 0 0) (.slice none 0 0)
    obtain ⟨q0, q1, q2, q3⟩ := box4 b4
    have hbut := but_set4 (gr := gr) HB1.out HG.out (.int .i64 3) (.string ⟨#[]⟩) (.slice none 0 0) (.slice none 0 0)
    have hrs := rs_far4 (gr := gr) HR1.out (by have := HG.out; omega) bx1.out (.int .i64 3) (.string ⟨#[]⟩) (.slice none 0 0) (.slice none 0 0)
    go_wp2
    refine bodyPost_ret (v := .agg #[.int .i64 3, .string ⟨#[]⟩, .slice none 0 0, .slice none 0 0]) (by simp [results, Tryz.results39, go_sem, q0, q1, q2, q3]) rfl ?_
    rw [HN.out]
    exact ⟨rfl, hbut, hrs⟩
set_option maxRecDepth 100000 in
set_option maxHeartbeats 2000000 in
theorem jtext_any (g h : Nat) (s l : Bs) (m o : Nat) (w : World) (hs : s.length ≤ 1000000) (hl : l.length ≤ 1000000) (r : RS w g h s l m o) : Calls Tryz.prog 41 #[.pointer (some ⟨g, 0, none⟩)] w (RdEnds g h s w (if (unqL l).2.2 = 0 then .ok (jx (.mk 5 (unqL l).1 [] []) nilS nilS, l.drop (unqL l).2.1, m, o) else .error ((unqL l).2.2, l.drop (unqL l).2.1))) := by
  have hgl := r.lt
  have hbA := ba1 w (.cells #[.int .i64 0, .string ⟨#[]⟩, .slice none 0 0, .slice none 0 0] 25)
  have HB0 := Lib.hid (But.of (g := g) hbA)
  have HR0 := Lib.hid (r.up hbA)
  have bx := Lib.hid (Box.new w 25 #[.int .i64 0, .string ⟨#[]⟩, .slice none 0 0, .slice none 0 0])
  have HP := Lib.hid (fun W (r : RS W g h s l m o) => literal_any g h s l m o W hs hl r)
  unfold litE at HP
  clear r hbA
  obtain ⟨⟨x, n, e⟩, hu⟩ : ∃ q, unqL l = q := ⟨_, rfl⟩
  rw [hu] at HP ⊢
  simp only at HP ⊢
  clear hu
  obtain ⟨gr, hgr⟩ : ∃ gr, w.heap.size = gr := ⟨_, rfl⟩
  by_cases he : e = 0
  · rw [if_pos he] at HP ⊢
    go_enter Tryz.func41, Tryz.ntmps41
    go_wp2_with fail
    rw [hgr] at bx
    have HG : Hid (w.heap.size ≤ gr) := Lib.hid (by omega)
    clear hgr
    generalize w.alloc (.cells #[.int .i64 0, .string ⟨#[]⟩, .slice none 0 0, .slice none 0 0] 25) = W0 at *
    refine (HP.out _ HR0.out).mono ?_
    rintro E w1 ⟨rfl, hb, hr1⟩
    have HR1 := Lib.hid hr1
    have HB1 := Lib.hid (HB0.out.on hb)
    have bx1 := Lib.hid (bx.out.but hb (by have := HG.out; omega))
    clear hr1 hb bx HB0 HR0
    obtain ⟨c0, c1, c2, c3⟩ := box4 bx1.out
    have f0 := bx1.out.f 0
    have f1 := bx1.out.f 1
    have f2 := bx1.out.f 2
    have f3 := bx1.out.f 3
    have b4 := box_set4 bx1.out (.int .i64 5) (.string (tb x)) (.slice none 0 0) (.slice none 0 0)
    obtain ⟨q0, q1, q2, q3⟩ := box4 b4
    have hbut := but_set4 (gr := gr) HB1.out HG.out (.int .i64 5) (.string (tb x)) (.slice none 0 0) (.slice none 0 0)
    have hrs := rs_far4 (gr := gr) HR1.out (by have := HG.out; omega) bx1.out (.int .i64 5) (.string (tb x)) (.slice none 0 0) (.slice none 0 0)
    go_wp2
    refine bodyPost_ret (v := .agg #[.int .i64 5, .string (tb x), .slice none 0 0, .slice none 0 0]) (by simp [results, Tryz.results41, go_sem, q0, q1, q2, q3]) rfl ?_
    exact ⟨rfl, hbut, hrs⟩
  · rw [if_neg he] at HP ⊢
    go_enter Tryz.func41, Tryz.ntmps41
    go_wp2_with fail
    refine (HP.out _ HR0.out).mono ?_
    rintro E w1 ⟨rfl, hb⟩
    have HB1 := HB0.out.on hb
    go_wp2
    exact ⟨rfl, by first | rfl | rw [List.length_drop], HB1⟩
set_option maxRecDepth 100000 in
set_option maxHeartbeats 4000000 in
theorem jnumber_any (g h : Nat) (s l : Bs) (m o : Nat) (w : World) (hs : s.length ≤ 1000000) (hl : l.length ≤ 1000000) (r : RS w g h s l m o) : Calls Tryz.prog 40 #[.pointer (some ⟨g, 0, none⟩)] w (RdEnds g h s w (if numberL l = 0 then .error (31, l) else .ok (jx (.mk 4 (l.take (numberL l)) [] []) nilS nilS, l.drop (numberL l), m, o))) := by
  have hgl := r.lt
  have hbA := ba1 w (.cells #[.int .i64 0, .string ⟨#[]⟩, .slice none 0 0, .slice none 0 0] 25)
  have HB0 := Lib.hid (But.of (g := g) hbA)
  have HR0 := Lib.hid (r.up hbA)
  have bx := Lib.hid (Box.new w 25 #[.int .i64 0, .string ⟨#[]⟩, .slice none 0 0, .slice none 0 0])
  have HN := Lib.hid (fun W => cutNumber_any l hl W)
  have HF := Lib.hid (fun W (r : RS W g h s l m o) => fail_any g h s l m o 31 W hs hl r)
  unfold NumCut at HN
  have hle := jn_le l
  clear r hbA
  obtain ⟨n, hn⟩ : ∃ n, numberL l = n := ⟨_, rfl⟩
  rw [hn] at HN hle ⊢
  clear hn
  obtain ⟨gr, hgr⟩ : ∃ gr, w.heap.size = gr := ⟨_, rfl⟩
  obtain ⟨c0, c1, c2, c3, c4⟩ := HR0.out.cells
  by_cases h0 : n = 0
  · subst h0
    rw [if_pos rfl]
    rw [show decide ((0 : Nat) ≠ 0) = false from rfl] at HN
    go_enter Tryz.func40, Tryz.ntmps40
    go_wp2_with fail
    refine (HN.out _).mono ?_
    rintro E w1 ⟨x, rfl, _, hb⟩
    have HR1 := Lib.hid (HR0.out.up hb)
    have HB1 := Lib.hid (HB0.out.on (But.of hb))
    clear hb
    go_wp2_with fail
    refine (HF.out _ HR1.out).mono ?_
    rintro E w2 ⟨rfl, hb⟩
    have HB2 := HB1.out.on hb
    go_wp2
    exact ⟨rfl, rfl, HB2⟩
  · rw [if_neg h0]
    rw [decide_eq_true h0] at HN
    have zl : (tb l).size = l.length := tb_size l
    go_enter Tryz.func40, Tryz.ntmps40
    go_wp2_with fail
    rw [hgr] at bx
    have HG : Hid (w.heap.size ≤ gr) := Lib.hid (by omega)
    clear hgr
    generalize w.alloc (.cells #[.int .i64 0, .string ⟨#[]⟩, .slice none 0 0, .slice none 0 0] 25) = W0 at *
    refine (HN.out _).mono ?_
    rintro E w1 ⟨x, rfl, hx, hb⟩
    have hx0 := hx h0
    have hxl : x.length = l.length - n := by rw [hx0, List.length_drop]
    have zx : (tb x).size = x.length := tb_size x
    have hw : IntKind.i64.wrap ((l.length : Int) - (x.length : Int)) = (n : Int) := by rw [IntWalk.i64_in _ (by omega)]; omega
    have hxt : (tb l).extract 0 n = tb (l.take n) := by rw [tb_ext, List.drop_zero]
    have hni : (n : Int) ≤ (l.length : Int) := by omega
    have HX := Lib.hid hx0
    have HR1 := Lib.hid (HR0.out.up hb)
    have HB1 := Lib.hid (HB0.out.on (But.of hb))
    have bx1 := Lib.hid (bx.out.up hb)
    clear hb hx hx0 hxl bx HB0 HR0 HN HF c0 c1 c2 c3 c4
    obtain ⟨c0, c1, c2, c3, c4⟩ := HR1.out.cells
    go_wp2_with fail
    go_quiet (fail)
    rename_i nq
    have hbq := below_drewN (Below.refl w1.heap.size w1) nq
    have HR2 := Lib.hid (HR1.out.up hbq)
    have HB2 := Lib.hid (HB1.out.on (But.of hbq))
    have bx2 := Lib.hid (bx1.out.up hbq)
    clear HR1 HB1 bx1 c0 c1 c2 c3 c4 hbq
    generalize w1.drewN nq = W2 at *
    have fr := HR2.out.bx.f 1
    have cr := HR2.out.bx.c 1 rfl
    have HR3 := Lib.hid (HR2.out.setl x)
    have HB3 := Lib.hid (HB2.out.on (but_cell W2 g 1 (.string (tb x))))
    have bx3 := Lib.hid (bx2.out.far (p := ⟨g, 1, none⟩) (by have := HG.out; simp only; omega) (.string (tb x)))
    go_upto_region 6 with fail
    clear cr fr
    generalize W2.setCell ⟨g, 1, none⟩ (.string (tb x)) = W3 at *
    obtain ⟨c0, c1, c2, c3⟩ := box4 bx3.out
    have f0 := bx3.out.f 0
    have f1 := bx3.out.f 1
    have f2 := bx3.out.f 2
    have f3 := bx3.out.f 3
    have b4 := box_set4 bx3.out (.int .i64 4) (.string (tb (l.take n))) (.slice none 0 0) (.slice none 0 0)
    obtain ⟨q0, q1, q2, q3⟩ := box4 b4
    have hbut := but_set4 (gr := gr) HB3.out HG.out (.int .i64 4) (.string (tb (l.take n))) (.slice none 0 0) (.slice none 0 0)
    have hrs := rs_far4 (gr := gr) HR3.out (by have := HG.out; omega) bx3.out (.int .i64 4) (.string (tb (l.take n))) (.slice none 0 0) (.slice none 0 0)
    go_wp2
    refine bodyPost_ret (v := .agg #[.int .i64 4, .string (tb (l.take n)), .slice none 0 0, .slice none 0 0]) (by simp [results, Tryz.results40, go_sem, q0, q1, q2, q3]) rfl ?_
    exact ⟨rfl, hbut, by rw [← HX.out]; exact hrs⟩
end Go.Proofs.YtnkhghjcfhpeiaaGreatDoor

/-
  A list or an object while it is read; how a text is read, without a count of rounds.
-/
namespace Go.Proofs.YtnkhghjcfhpeiaaGreatDoor
open Go.RowKit

/-! how a text is read, without a count of rounds -/
def runU (j : Job) (m : Nat) (l : Bs) : Res := run (needJ j l.length) j m l
theorem runU_of {f : Nat} {j : Job} {m : Nat} {l : Bs} (h : ¬ outR (run f j m l)) : runU j m l = run f j m l := by
  unfold runU
  rcases Nat.le_total f (needJ j l.length) with h1 | h1
  · exact run_mono h1 h
  · exact (run_mono h1 (run_total _ j m l (Nat.le_refl _))).symm
theorem runU_step (j : Job) (m : Nat) (l : Bs) : runU j m l = stepJ runU j m l := by
  have h0 := run_total (needJ j l.length) j m l (Nat.le_refl _)
  have h1 : run (needJ j l.length + 1) j m l = run (needJ j l.length) j m l := run_mono1 _ _ _ _ h0
  rw [run_step] at h1
  have h2 : ¬ outR (stepJ (run (needJ j l.length)) j m l) := by rw [h1]; exact h0
  have h3 := step_mono (R := run (needJ j l.length)) (R' := runU) (fun j m l h => runU_of h) j m l h2
  rw [h3, h1]
  rfl
theorem runU_len {j : Job} {m : Nat} {l : Bs} {v : Jv} {m' : Nat} {l' : Bs} (h : runU j m l = .ok (v, m', l')) : l'.length < l.length := run_len _ _ _ _ _ _ _ h
theorem runU_val {w m : Nat} {l : Bs} {v : Jv} {m' : Nat} {l' : Bs} (h : runU (.val w) m l = .ok (v, m', l')) : m' ≤ 500 := by
  have := run_ok _ _ _ _ _ _ _ h
  exact this.2.2.1
theorem parse_runU (s : Bs) : parseJ s = if 4000 < s.length then (.zero, 2, 0) else match runU (.val 0) 0 s with
  | .error (e, l) => (.zero, e, s.length - l.length)
  | .ok (v, _, l) => match skipB l with
    | [] => (v, 0, 0)
    | c :: r => (.zero, 31, s.length - (c :: r).length) := rfl

/-! a list or an object while it is read -/
structure ML (w W : World) (g h gb gr gv : Nat) (kd : Int) (K : Sli) (ks : List Bs) (S : Sli) (vs : List Jv) (cs : List Value) : Prop where
  but : But g w W
  rb : Box W gb 50 #[.pointer (some ⟨g, 0, none⟩)]
  res : Box W gr 25 #[.int .i64 0, .string ⟨#[]⟩, .slice none 0 0, .slice none 0 0]
  bx : Box W gv 25 #[.int .i64 kd, .string ⟨#[]⟩, .slice K.A K.n K.c, .slice S.A S.n S.c]
  krow : Row W (gv + 1) 9 1 K (svs (ks.map tb))
  vrow : Row W (gv + 1) 25 4 S cs
  jl : JL W (PB gv K S) vs cs
  lo : w.heap.size ≤ gb
  br : gb < gr
  rv : gr < gv
  mr : g < w.heap.size
  mh : h < w.heap.size
theorem RS.stay {w W : World} {g h : Nat} {s l : Bs} {m o B : Nat} (r : RS w g h s l m o) (hg : g < B) (hh : h < B) (hb : ∀ b, b < B → W.heap[b]? = w.heap[b]?) : RS W g h s l m o := ⟨(hb g hg).trans r.bx, (hb h hh).trans r.mp⟩
section
variable {w W W' : World} {g h gb gr gv : Nat} {kd : Int} {K S : Sli} {ks : List Bs} {vs : List Jv} {cs : List Value}
theorem ML.up (h1 : ML w W g h gb gr gv kd K ks S vs cs) (hb : Below W.heap.size W W') : ML w W' g h gb gr gv kd K ks S vs cs :=
  ⟨h1.but.on (But.of hb), h1.rb.up hb, h1.res.up hb, h1.bx.up hb, h1.krow.up hb, h1.vrow.up hb, h1.jl.up hb, h1.lo, h1.br, h1.rv, h1.mr, h1.mh⟩
theorem ML.call (h1 : ML w W g h gb gr gv kd K ks S vs cs) (hb : But g W W') {ps : Array Value} (hr : Box W g 69 ps) : ML w W' g h gb gr gv kd K ks S vs cs := by
  have e1 := h1.lo
  have e2 := h1.rv
  have e3 := h1.mr
  have e4 := h1.br
  exact ⟨h1.but.on hb, h1.rb.but hb (by omega), h1.res.but hb (by omega), h1.bx.but hb (by omega), row_but h1.krow hb hr (by decide), row_but h1.vrow hb hr (by decide), JL.to (Keeps.but hb (fun b hp => by have := hp.1; omega) (fun _ hp _ => hp)) _ _ h1.jl, h1.lo, h1.br, h1.rv, h1.mr, h1.mh⟩
/-- a value that was read lies apart from the rows -/
theorem ML.apart (h1 : ML w W g h gb gr gv kd K ks S vs cs) {v : Jv} {X : Value} (hv : JV W' (fun b => W.heap.size ≤ b) v X) : JV W' (PB gv K S) v X := by
  refine JV.to (Keeps.same (fun b hp hl => ⟨?_, fun e => ?_, fun e => ?_⟩)) _ _ hv
  · have := h1.bx.lt
    omega
  · have := (row_own h1.krow e).2
    omega
  · have := (row_own h1.vrow e).2
    omega
/-- one key more -/
theorem ML.key (h1 : ML w W g h gb gr gv kd K ks S vs cs) {A' : Option Addr} {n c' : Nat} {ks' : List Bs} (q1 : W'.ownsRow (gv + 1) 9 1 (.slice A' n c') n (svs (ks'.map tb))) (q2 : W.grownBy W' (Value.slice K.A K.n K.c).ownBlock) (q3 : (Value.slice A' n c').ownBlock = (Value.slice K.A K.n K.c).ownBlock ∨ (Value.slice A' n c').ownBlock = some W.heap.size) :
    ML w (W'.setCell ⟨gv, 2, none⟩ (.slice A' n c')) g h gb gr gv kd ⟨A', n, c'⟩ ks' S vs cs ∧ W'.cell? ⟨gv, 2, none⟩ = some (.slice K.A K.n K.c) ∧ W'.frozen? ⟨gv, 2, none⟩ = false ∧ (∀ b, b < w.heap.size → (W'.setCell ⟨gv, 2, none⟩ (.slice A' n c')).heap[b]? = W.heap[b]?) := by
  have o1 := h1.lo
  have o2 := h1.rv
  have o3 := h1.mr
  have o4 := h1.br
  have hne : ∀ b, b ≤ gv → some b ≠ (Value.slice K.A K.n K.c).ownBlock := fun b hb e => by have := (row_own h1.krow e).1; omega
  have hbx := grown_box q2 h1.bx (hne _ (Nat.le_refl _))
  have hv' : Row W' (gv + 1) 25 4 S cs := h1.vrow.keep fun g _ hg => grown_other h1.krow q2 hg (by decide)
  refine ⟨⟨?_, (grown_box q2 h1.rb (hne _ (by omega))).far (p := ⟨gv, 2, none⟩) (by simp only; omega) _, (grown_box q2 h1.res (hne _ (by omega))).far (p := ⟨gv, 2, none⟩) (by simp only; omega) _, ?_, rowf (O := ⟨A', n, c'⟩) q1 (p := ⟨gv, 2, none⟩) (by simp only; omega) _, rowf hv' (p := ⟨gv, 2, none⟩) (by simp only; omega) _, ?_, h1.lo, h1.br, h1.rv, h1.mr, h1.mh⟩, hbx.c 2 rfl, hbx.f 2, ?_⟩
  · exact but_set (but_grown h1.but q2 (fun b hb => hne b (by omega))) (by omega) 2 _
  · have := hbx.set 2 (.slice A' n c')
    simpa using this
  · refine JL.to (keep_set (fun b hp => by have := hp.1; omega)) _ _ (JL.to (grown_keep q2 (fun b hp => hp.2.1) (fun b hp hl => ⟨hp.1, ?_, hp.2.2⟩)) _ _ h1.jl)
    intro e
    rcases q3 with q3 | q3
    · exact hp.2.1 (e.trans q3)
    · have := Option.some.inj (e.trans q3)
      omega
  · intro b hb
    have hb2 : b < W.heap.size := Nat.lt_of_lt_of_le hb h1.but.size
    exact (Below.heap_setCell W' ⟨gv, 2, none⟩ _ b (by simp only; omega)).trans (q2.block b hb2 (hne b (by omega)))
/-- a row of structs whose last one is stored anew -/
theorem row_set4 {B n c : Nat} {e : TypeId} {A : Option Addr} {z0 z1 z2 z3 : Value} (hr : W.ownsRow B e 4 (.slice A (n + 1) c) (n + 1) (cs ++ [z0, z1, z2, z3])) : ∃ ab cur, A = some ⟨ab, 0, none⟩ ∧ B ≤ ab ∧ cs.length = n * 4 ∧ Box W ab e cur ∧ cur.toList.take ((n + 1) * 4) = cs ++ [z0, z1, z2, z3] ∧
    ∀ x y z u, Row ((((W.setCell ⟨ab, n * 4, none⟩ x).setCell ⟨ab, n * 4 + 1, none⟩ y).setCell ⟨ab, n * 4 + 2, none⟩ z).setCell ⟨ab, n * 4 + 3, none⟩ u) B e 4 ⟨A, n + 1, c⟩ (cs ++ [x, y, z, u]) := by
  obtain ⟨hl, hr⟩ := hr
  rcases hr with ⟨_, h0⟩ | ⟨ab, cap, cur, q1, hb, hg, hnc, hm, hcs, hv⟩
  · omega
  · simp only [Value.slice.injEq] at q1
    obtain ⟨rfl, _, rfl⟩ := q1
    have hcl : cs.length = n * 4 := by
      rw [List.length_append] at hl
      simp only [List.length_cons, List.length_nil] at hl
      omega
    refine ⟨ab, cur, rfl, hb, hcl, hg, hv, fun x y z u => ⟨?_, .inr ⟨ab, c, ?_, rfl, hb, ?_, hnc, hm, ?_, ?_⟩⟩⟩
    · rw [List.length_append] at hl ⊢
      simp only [List.length_cons, List.length_nil] at hl ⊢
      omega
    · exact (((cur.setIfInBounds (n * 4) x).setIfInBounds (n * 4 + 1) y).setIfInBounds (n * 4 + 2) z).setIfInBounds (n * 4 + 3) u
    · exact ((((show Box W ab e cur from hg).set (n * 4) x).set (n * 4 + 1) y).set (n * 4 + 2) z).set (n * 4 + 3) u
    · simpa using hcs
    · have hsp : cur.toList = cs ++ ([z0, z1, z2, z3] ++ cur.toList.drop ((n + 1) * 4)) := by
        rw [← List.append_assoc, ← hv, List.take_append_drop]
      generalize cur.toList.drop ((n + 1) * 4) = R at hsp
      have hset : ∀ (i : Nat) (a : Value) (P Q : List Value) (b : Value), i = P.length → (P ++ b :: Q).set i a = P ++ a :: Q := by
        intro i a P Q b hi
        subst hi
        rw [List.set_append_right _ _ (Nat.le_refl _), Nat.sub_self]
        rfl
      simp only [Array.toList_setIfInBounds]
      rw [hsp]
      simp only [List.cons_append, List.nil_append]
      rw [hset (n * 4) x cs _ z0 hcl.symm]
      rw [show cs ++ x :: z1 :: z2 :: z3 :: R = (cs ++ [x]) ++ z1 :: z2 :: z3 :: R by simp, hset (n * 4 + 1) y (cs ++ [x]) _ z1 (by simp [hcl])]
      rw [show (cs ++ [x]) ++ y :: z2 :: z3 :: R = (cs ++ [x, y]) ++ z2 :: z3 :: R by simp, hset (n * 4 + 2) z (cs ++ [x, y]) _ z2 (by simp [hcl])]
      rw [show (cs ++ [x, y]) ++ z :: z3 :: R = (cs ++ [x, y, z]) ++ z3 :: R by simp, hset (n * 4 + 3) u (cs ++ [x, y, z]) _ z3 (by simp [hcl])]
      rw [show (cs ++ [x, y, z]) ++ u :: R = (cs ++ [x, y, z, u]) ++ R by simp, List.take_append_of_le_length (by simp [hcl]; omega), List.take_of_length_le (by simp [hcl]; omega)]
end
end Go.Proofs.YtnkhghjcfhpeiaaGreatDoor

/-
  The program's each, walked over what a closure does.
-/
namespace Go.Proofs.YtnkhghjcfhpeiaaGreatDoor
open Go.RowKit

theorem end_cases (e : UInt8) (he : e ≠ 44) (l : Bs) (m o : Nat) : (skipB l = [] ∧ endP [e] l m o = .error (31, [])) ∨ ∃ c r, skipB l = c :: r ∧ ((c = 44 ∧ endP [e] l m o = .ok (.bool false, r, m, o)) ∨ (c ≠ 44 ∧ c = e ∧ endP [e] l m o = .ok (.bool true, r, m, o)) ∨ (c ≠ 44 ∧ c ≠ e ∧ endP [e] l m o = .error (31, c :: r))) := by
  have hp : ∀ (x c : UInt8) (r : Bs), cutP [x] (c :: r) = if x = c then (r, true) else (c :: r, false) := by
    intro x c r
    unfold cutP
    by_cases h : x = c
    · rw [if_pos (by rw [List.isPrefixOf_iff_prefix, h]; exact ⟨r, rfl⟩), if_pos h]
      rfl
    · rw [if_neg, if_neg h]
      intro h1
      rw [List.isPrefixOf_iff_prefix] at h1
      obtain ⟨q, hq⟩ := h1
      exact h (List.cons.inj hq).1
  unfold endP
  cases hs : skipB l with
  | nil => exact .inl ⟨rfl, rfl⟩
  | cons c r =>
    refine .inr ⟨c, r, rfl, ?_⟩
    rw [hp, hp]
    by_cases h44 : c = 44
    · subst h44
      exact .inl ⟨rfl, by simp [he]⟩
    · by_cases hc : c = e
      · subst hc
        exact .inr (.inl ⟨h44, rfl, by simp⟩)
      · have h1 : ¬ e = c := fun h => hc h.symm
        have h2 : ¬ 44 = c := fun h => h44 h.symm
        exact .inr (.inr ⟨h44, hc, by simp [h1, h2]⟩)
/-- what a closure does of one more -/
def CEnds {α : Type} (M : α → World → Prop) (g h : Nat) (s : Bs) (o : Nat) (w0 : World) (res : Except (Int × Bs) (α × Nat × Bs)) (E : Ending) (w' : World) : Prop := match res with
  | .error (e, r) => Thr g s e r w0 E w'
  | .ok (a, m, l) => E = .returned (.tuple #[]) ∧ M a w' ∧ RS w' g h s l m o
/-- the end of a list or an object -/
def EachEnds {α : Type} (M : α → World → Prop) (fin : α → Jv) (g h : Nat) (s : Bs) (o : Nat) (w0 : World) (res : Res) (E : Ending) (w' : World) : Prop := match res with
  | .error (e, r) => Thr g s e r w0 E w'
  | .ok (v, m, l) => E = .returned (.tuple #[]) ∧ ∃ a, v = fin a ∧ M a w' ∧ RS w' g h s l m o
set_option maxRecDepth 100000 in
set_option maxHeartbeats 8000000 in
theorem each_any {α : Type} (g h : Nat) (s : Bs) (o N : Nat) (ec : UInt8) (hec : ec ≠ 44) (C : FuncId) (cap : Array Value) (hent : ∀ args w, (callFunc C args).run Tryz.prog w = .ok (.enter C args) w) (M : α → World → Prop) (w0 : World) (F : α → Nat → Bs → Res) (fin : α → Jv) (stp : α → Nat → Bs → Except (Int × Bs) (α × Nat × Bs)) (cnt : α → Nat)
    (hF : ∀ a m l, F a m l = match stp a m l with | .error e => .error e | .ok (a', m', l') => (match skipB l' with | [] => .error (31, []) | c :: r => if c = 44 then F a' m' r else if c = ec then .ok (fin a', m', r) else .error (31, c :: r)))
    (hlen : ∀ a m l a' m' l', m ≤ 500 → stp a m l = .ok (a', m', l') → l'.length < l.length ∧ m' ≤ 500 ∧ (cnt a ≤ m → cnt a' ≤ m'))
    (hM : ∀ a w w' ps, M a w → But g w w' → Box w g 69 ps → M a w') (hMb : ∀ a w, M a w → But g w0 w)
    (hs : s.length ≤ 1000000) (hN : N ≤ 1000000) (ho : o ≤ 15)
    (hC : ∀ a m l w, l.length ≤ N → m ≤ 500 → cnt a ≤ m → M a w → RS w g h s l m (o + 1) → Calls Tryz.prog C cap w (CEnds M g h s (o + 1) w0 (stp a m l)))
    (a0 : α) (m0 : Nat) (l0 : Bs) (w : World) (hl : l0.length ≤ N) (hm : m0 ≤ 500) (hc0 : cnt a0 ≤ m0) (hM0 : M a0 w) (r : RS w g h s l0 m0 o) :
    Calls Tryz.prog 63 #[.pointer (some ⟨g, 0, none⟩), .string (tb [ec]), .func (.func C) #[] cap] w (EachEnds M fin g h s o w0 (if (cutP [ec] (skipB l0)).2 = true then .ok (fin a0, m0, (cutP [ec] (skipB l0)).1) else F a0 m0 (cutP [ec] (skipB l0)).1)) := by
  obtain ⟨c0, c1, c2, c3, c4⟩ := r.cells
  have f3 := r.bx.f 3
  have hw1 : IntKind.i64.wrap ((o : Int) + 1) = ((o + 1 : Nat) : Int) := by rw [IntWalk.i64_in _ (by omega)]; omega
  have hw2 : IntKind.i64.wrap (((o + 1 : Nat) : Int) - 1) = (o : Int) := by rw [IntWalk.i64_in _ (by omega)]; omega
  have HR1 := Lib.hid (r.seto (o + 1))
  have HMa := Lib.hid (hM a0 w _ _ hM0 (but_cell w g 3 (.int .i64 ((o + 1 : Nat) : Int))) r.bx)
  have HP := Lib.hid (fun W (r : RS W g h s l0 m0 (o + 1)) => passes_any g h s l0 [ec] m0 (o + 1) W r)
  have hle := skip_le l0
  obtain ⟨⟨x, b0⟩, hx⟩ : ∃ q, cutP [ec] (skipB l0) = q := ⟨_, rfl⟩
  have hxl : x.length ≤ N := by
    have h1 : x = (cutP [ec] (skipB l0)).1 := by rw [hx]
    rw [h1]
    unfold cutP
    split
    · simp only [List.length_drop]; omega
    · simp only; omega
  rw [hx] at HP ⊢
  simp only at HP ⊢
  obtain ⟨R0, hR0⟩ : ∃ R0, (if b0 = true then .ok (fin a0, m0, x) else F a0 m0 x : Res) = R0 := ⟨_, rfl⟩
  rw [hR0]
  have HI : Hid ((b0 = false → R0 = F a0 m0 x) ∧ (b0 = true → R0 = .ok (fin a0, m0, x))) := Lib.hid ⟨fun e => by rw [← hR0, e]; rfl, fun e => by rw [← hR0, e]; rfl⟩
  obtain ⟨o1, ho1⟩ : ∃ o1, o + 1 = o1 := ⟨_, rfl⟩
  rw [ho1] at hw1 hw2 HR1 HMa HP hC
  have HC := Lib.hid hC
  have HF := Lib.hid hF
  have HLn := Lib.hid hlen
  have HMM := Lib.hid hM
  have HMb := Lib.hid hMb
  have HE := Lib.hid (fun W l m (h1 : l.length ≤ 1000000) (r : RS W g h s l m o1) => ended_any g h s l [ec] m o1 W hs h1 r)
  have hHO : Hid (o1 = o + 1) := Lib.hid ho1.symm
  clear r hM0 hx hR0 hC hF hlen hM hMb ho1 hle hl
  go_enter Tryz.func63, Tryz.ntmps63
  go_wp2_with fail
  refine (HP.out _ HR1.out).mono ?_
  rintro E w1 ⟨rfl, hb1, hr1⟩
  have HM1 := Lib.hid (HMM.out a0 _ _ _ HMa.out hb1 HR1.out.bx)
  have HRb := Lib.hid hr1
  clear hb1 hr1 HMa HR1 HP c0 c1 c2 c3 c4 f3
  go_wp2_with fail
  go_loopw [6] (fun e wr => ∃ (a : α) (m : Nat) (l : Bs) (b : Bool), e = .bool b ∧ l.length ≤ N ∧ m ≤ 500 ∧ cnt a ≤ m ∧ Hid (M a wr) ∧ Hid (RS wr g h s l m o1) ∧ Hid ((b = false → R0 = F a m l) ∧ (b = true → R0 = .ok (fin a, m, l)))) (fun _ wr => szOf ((wr.cell? ⟨g, 1, none⟩).getD undef))
  case atStart => exact ⟨a0, m0, x, b0, rfl, hxl, hm, hc0, HM1, HRb, HI⟩
  case round =>
    obtain ⟨a, m, l, b, rfl, hl, hm5, hct, HMr, HRr, HIr⟩ := hrel
    obtain ⟨c0, c1, c2, c3, c4⟩ := HRr.out.cells
    cases b with
    | true =>
      have hq := HIr.out.2 rfl
      subst hq
      have f3 := HRr.out.bx.f 3
      have HO1 := hHO.out
      have HR2 := Lib.hid (HRr.out.seto o)
      have HM2 := Lib.hid (HMM.out a _ _ _ HMr.out (but_cell wr g 3 (.int .i64 (o : Int))) HRr.out.bx)
      clear HIr HI HC HF HLn HO1
      go_wp2
      exact ⟨rfl, .tuple #[], end_unit rfl, rfl, a, rfl, HM2.out, HR2.out⟩
    | false =>
      have hq := HIr.out.1 rfl
      have hFF := HF.out a m l
      have HCc := Lib.hid (HC.out a m l wr hl hm5 hct HMr.out HRr.out)
      have HBr := Lib.hid (HMb.out a wr HMr.out)
      have hln := HLn.out a m l
      cases hst : stp a m l with
      | error er =>
        obtain ⟨e, rr⟩ := er
        rw [hst] at hFF HCc
        have hq2 : R0 = .error (e, rr) := hq.trans hFF
        subst hq2
        clear hq hFF hst HIr HI HC HF HLn hln c0 c1 c2 c3 c4
        go_wp2_with fail
        refine HCc.out.mono ?_
        rintro E w2 ⟨rfl, hb⟩
        go_wp2
        exact ⟨rfl, rfl, hb⟩
      | ok q =>
        obtain ⟨a', m', l'⟩ := q
        rw [hst] at hFF HCc
        dsimp only at hFF
        obtain ⟨hl', hm', hct'⟩ := hln _ _ _ hm5 hst
        replace hct' := hct' hct
        have hE := end_cases ec hec l' m' o1
        have HEe := Lib.hid (fun W (r : RS W g h s l' m' o1) => HE.out W l' m' (by omega) r)
        have hmea : szOf ((wr.cell? ⟨g, 1, none⟩).getD undef) = l.length := by rw [c1]; exact tb_size l
        have Hmea := Lib.hid hmea
        have hsk := skip_le l'
        clear hst HIr HI HC HLn hln c0 c1 c2 c3 c4 hmea
        rcases hE with ⟨hn, hE⟩ | ⟨c, rr, hn, ⟨hc, hE⟩ | ⟨hc, hc2, hE⟩ | ⟨hc, hc2, hE⟩⟩
        · rw [hn] at hFF
          rw [hE] at HEe
          have hq2 : R0 = .error (31, []) := hq.trans hFF
          subst hq2
          clear hq hFF HF hn hE
          go_wp2_with fail
          refine HCc.out.mono ?_
          rintro E w2 ⟨rfl, hm2, hr2⟩
          have HM2 := Lib.hid hm2
          have HR2 := Lib.hid hr2
          clear hm2 hr2
          go_wp2_with fail
          refine (HEe.out _ HR2.out).mono ?_
          rintro E w3 ⟨rfl, hb⟩
          have HB3 := (HMb.out a' w2 HM2.out).on hb
          go_wp2
          exact ⟨rfl, rfl, HB3⟩
        · rw [hn] at hFF hsk
          rw [hE] at HEe
          have hq2 : R0 = F a' m' rr := by rw [hq, hFF]; exact if_pos hc
          have HI2 := Lib.hid hq2
          rw [List.length_cons] at hsk
          clear hq hFF HF hn hE hq2
          go_wp2_with fail
          refine HCc.out.mono ?_
          rintro E w2 ⟨rfl, hm2, hr2⟩
          have HM2 := Lib.hid hm2
          have HR2 := Lib.hid hr2
          clear hm2 hr2
          go_wp2_with fail
          refine (HEe.out _ HR2.out).mono ?_
          rintro E w3 ⟨rfl, hb, hr3⟩
          have HM3 := Lib.hid (HMM.out a' _ _ _ HM2.out hb HR2.out.bx)
          have HR3 := Lib.hid hr3
          clear hb hr3
          go_wp2
          go_roundw
          case rel => exact ⟨a', m', rr, false, rfl, by omega, hm', hct', HM3, HR3, Lib.hid ⟨fun _ => HI2.out, fun e => (by cases e)⟩⟩
          case measure =>
            rw [Hmea.out, HR3.out.cells.2.1]
            show (tb rr).size < _
            rw [tb_size]
            omega
        · rw [hn] at hFF hsk
          rw [hE] at HEe
          have hq2 : R0 = .ok (fin a', m', rr) := by rw [hq, hFF]; exact (if_neg hc).trans (if_pos hc2)
          have HI2 := Lib.hid hq2
          rw [List.length_cons] at hsk
          clear hq hFF HF hn hE hq2
          go_wp2_with fail
          refine HCc.out.mono ?_
          rintro E w2 ⟨rfl, hm2, hr2⟩
          have HM2 := Lib.hid hm2
          have HR2 := Lib.hid hr2
          clear hm2 hr2
          go_wp2_with fail
          refine (HEe.out _ HR2.out).mono ?_
          rintro E w3 ⟨rfl, hb, hr3⟩
          have HM3 := Lib.hid (HMM.out a' _ _ _ HM2.out hb HR2.out.bx)
          have HR3 := Lib.hid hr3
          clear hb hr3
          go_wp2
          go_roundw
          case rel => exact ⟨a', m', rr, true, rfl, by omega, hm', hct', HM3, HR3, Lib.hid ⟨fun e => (by cases e), fun _ => HI2.out⟩⟩
          case measure =>
            rw [Hmea.out, HR3.out.cells.2.1]
            show (tb rr).size < _
            rw [tb_size]
            omega
        · rw [hn] at hFF
          rw [hE] at HEe
          have hq2 : R0 = .error (31, c :: rr) := by rw [hq, hFF]; exact (if_neg hc).trans (if_neg hc2)
          subst hq2
          clear hq hFF HF hn hE
          go_wp2_with fail
          refine HCc.out.mono ?_
          rintro E w2 ⟨rfl, hm2, hr2⟩
          have HM2 := Lib.hid hm2
          have HR2 := Lib.hid hr2
          clear hm2 hr2
          go_wp2_with fail
          refine (HEe.out _ HR2.out).mono ?_
          rintro E w3 ⟨rfl, hb⟩
          have HB3 := (HMb.out a' w2 HM2.out).on hb
          go_wp2
          exact ⟨rfl, rfl, HB3⟩
end Go.Proofs.YtnkhghjcfhpeiaaGreatDoor
