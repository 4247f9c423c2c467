/-
  The walk of the law HeadRight.
-/
import Derived.Test.YteefjcllbnmegaaDoorLawF
namespace Go.Proofs.YteefjcllbnmegaaDoor
open Go.RowKit

theorem parse_err {l : Bs} {a : Bool} (h : (parseH l a).2 ≠ 0) : (parseH l a).1 = Hd.zero := by
  unfold parseH parseL at h ⊢
  split
  · rfl
  · next h1 =>
    rw [if_neg h1] at h
    split
    · next h2 =>
      rw [if_pos h2] at h
      split
      · next h3 => rw [if_pos h3] at h; exact absurd rfl h
      · rfl
    · rfl
theorem zero_of {m t : ByteArray} {st : Int} {r : ByteArray} {mi : Int} {fs : List Fd} (h : hdOf m t st r mi fs = Hd.zero) : m = ⟨#[]⟩ ∧ t = ⟨#[]⟩ ∧ st = 0 ∧ r = ⟨#[]⟩ ∧ mi = 0 ∧ fs = [] :=
  hdOf_inj (h.trans (show Hd.zero = hdOf ⟨#[]⟩ ⟨#[]⟩ 0 ⟨#[]⟩ 0 [] from rfl))
def lsP : List ByteArray := [⟨#[71, 69, 84, 32, 47, 32, 72, 84, 84, 80, 47, 49, 46, 49, 13, 10]⟩, ⟨#[72, 84, 84, 80, 47, 49, 46, 49, 32, 50, 48, 48, 32, 79, 75, 13, 10]⟩]
theorem lsP_le : ∀ x ∈ lsP, x.size ≤ 17 := by decide +kernel
/-- a head that was parsed is small -/
theorem right_few {m t : ByteArray} {st : Int} {r : ByteArray} {mi : Int} {fs : List Fd} {a : Bool} (h : rightB (hdOf m t st r mi fs) a = true) : m.size ≤ 4096 ∧ t.size ≤ 4096 ∧ r.size ≤ 4096 ∧ fs.length ≤ 20 ∧ Few fs := by
  obtain ⟨_, h2, h3, h4⟩ := kind_parts h
  have hfs : Few fs := by
    intro f hf
    have := h3 (dl f.1, dl f.2) (List.mem_map.2 ⟨f, hf, rfl⟩)
    unfold fieldB at this
    rw [Bool.and_eq_true] at this
    have n1 := name_len this.1
    have n2 := value_len this.2
    rw [dl_len] at n1 n2
    omega
  have hn : fs.length ≤ 20 := by
    have : (dls fs).length ≤ 20 := h2
    rwa [List.length_map] at this
  unfold kindB at h4
  have zz : ∀ x : ByteArray, (dl x).isEmpty = true → x.size ≤ 4096 := by
    intro x hx
    rw [dl_emp, decide_eq_true_eq] at hx
    omega
  cases a with
  | false =>
    rw [if_neg (by decide)] at h4
    simp only [Bool.and_eq_true] at h4
    obtain ⟨⟨⟨k1, k2⟩, _⟩, k4⟩ := h4
    have n1 : (dl m).length ≤ 40 := name_len k1
    have n2 : (dl t).length ≤ 200 := by
      have : targetB (dl t) = true := k2
      unfold targetB at this
      simp only [Bool.and_eq_true, decide_eq_true_eq] at this
      exact this.1.2
    rw [dl_len] at n1 n2
    exact ⟨by omega, by omega, zz r k4, hn, hfs⟩
  | true =>
    rw [if_pos rfl] at h4
    simp only [Bool.and_eq_true] at h4
    obtain ⟨⟨⟨_, k2⟩, k3⟩, k4⟩ := h4
    have n3 : (dl r).length ≤ 200 := by
      have : reasonB (dl r) = true := k2
      unfold reasonB at this
      simp only [Bool.and_eq_true, decide_eq_true_eq] at this
      exact this.1
    rw [dl_len] at n3
    exact ⟨zz m k3, zz t k4, by omega, hn, hfs⟩

set_option maxRecDepth 100000 in
set_option maxHeartbeats 2000000 in
theorem headRight_any (s0 : ByteArray) (A : Option Addr) (L c : Nat) (ys : List UInt8) (small a : Bool) (w : World) (hs0 : s0.size ≤ 4611686018427387904) (hl : ys.length = L) (hm : L ≤ maxLen) (hU : Us w w.heap.size A ys) (hT : Tabs w) : Calls Tryd.prog 6 #[.string s0, .slice A L c, .bool small, .bool a] w (BoolEnds true w) := by
  have HU := Lib.hid hU
  have HL := Lib.hid hl
  have hmx := hm
  unfold maxLen at hmx
  clear hl hU
  go_enter Tryd.func6, Tryd.ntmps6
  go_wp2_with fail
  refine (awake_any _ hT).mono ?_
  rintro e w1 ⟨rfl, hb1⟩
  have hT1 := hT.up hb1
  have hcase : (small = false ∧ s0.size ≤ 400) ∨ (small = true ∨ (small = false ∧ 400 < s0.size)) := by
    cases small
    · by_cases h : s0.size ≤ 400
      · exact .inl ⟨rfl, h⟩
      · exact .inr (.inr ⟨rfl, by omega⟩)
    · exact .inr (.inl rfl)
  rcases hcase with ⟨rfl, h4⟩ | hcase
  case' inl =>
    have h4i : ¬ (400 : Int) < (s0.size : Int) := by omega
    have hb2 := hb1
    have hs4 := h4
    go_upto_region 6 with fail
    generalize w1 = W at *
    generalize s0 = s at *
  case' inr =>
    have HPc := Lib.hid (fun W (hW : Us W W.heap.size A ys) => pieces_any A L c ys W HL.out hm hW)
    obtain ⟨q, hq⟩ : ∃ q, L % 2 = q := ⟨_, rfl⟩
    have hq2 : q < 2 := by omega
    have t2 : (L : Int).tmod 2 = (q : Int) := by rw [Int.tmod_eq_emod_of_nonneg (by omega), ← hq]; simp
    have t3 : (L : Int) % 2 = (q : Int) := by rw [← hq]; simp
    have t4 : IntKind.i64.wrap (q : Int) = (q : Int) := IntWalk.i64_in _ (by omega)
    have t5 : (q : Int) < 2 := by omega
    have t6 : (0 : Int) ≤ (q : Int) := by omega
    obtain ⟨x, hxm, hx0⟩ : ∃ x, x ∈ lsP ∧ ∀ W : World, (W.alloc (.cells #[.string ⟨#[71, 69, 84, 32, 47, 32, 72, 84, 84, 80, 47, 49, 46, 49, 13, 10]⟩, .string ⟨#[72, 84, 84, 80, 47, 49, 46, 49, 32, 50, 48, 48, 32, 79, 75, 13, 10]⟩] 9)).cell? ⟨W.heap.size, q, none⟩ = some (.string x) := by
      refine ⟨lsP[q]'(by simpa [lsP] using hq2), List.getElem_mem _, fun W => ?_⟩
      exact (Box.new W 9 (svs lsP).toArray).c q (by simp [svs, show q < lsP.length by simpa [lsP] using hq2])
    have hxs := lsP_le x hxm
    clear hxm hq
    have HUw := Lib.hid (HU.out.up hb1)
    have hcase2 : small = true ∨ (small = false ∧ (400 : Int) < (s0.size : Int)) := by
      rcases hcase with h | ⟨h, h'⟩
      · exact .inl h
      · exact .inr ⟨h, by omega⟩
    clear hcase
    have key : True := trivial
    rcases hcase2 with rfl | ⟨rfl, h4i⟩
    all_goals
      go_upto_region 5 with fail
      go_cut [0] (fun v W => ∃ s : ByteArray, v = .string s ∧ s.size ≤ 400 ∧ Below w.heap.size w W)
      case first =>
        go_region_law (first | (go_simp; go_at_call 15; refine (HPc.out _ (HUw.out.up (by first | exact (Below.refl _ _).drew | exact (ba1 _ _).drew | exact Below.refl _ _ | exact ba1 _ _))).mono ?_; rintro e wP ⟨y, rfl, hy, hbP⟩; have k2 := fun W => run_string_add_sum (P := Tryd.prog) W x y (by omega); (try have hq9 := cell_up hbP (hx0 _))))
        all_goals (go_wp2_with fail; go_meet)
        all_goals
          refine ⟨x ++ y, rfl, by rw [ByteArray.size_append]; omega, ?_⟩
          first
          | exact bon hb1 (bon (ba1 _ _).drew hbP)
          | exact bon (bon hb1 (bon (Below.refl _ _).drew hbP)) (ba1 _ _)
          | exact (bon hb1 (bon (ba1 _ _).drew hbP)).drew
          | exact (bon (bon hb1 (bon (Below.refl _ _).drew hbP)) (ba1 _ _)).drew
      case' rest =>
        obtain ⟨s, rfl, hs4, hb2⟩ := hcut
        clear hx0 HPc HUw t2 t3 t4 t5 t6 key
        generalize wc = W at *
        go_upto_region 6 with fail
  all_goals
    have hTW := hT.up hb2
    have HP := Lib.hid (hparse_any s a W (by omega) hTW.mx)
    obtain ⟨q0, hq0⟩ : ∃ q, parseH (dl s) a = q := ⟨_, rfl⟩
    have HQ := Lib.hid hq0
    rw [hq0] at HP
    clear hq0
    go_wp2_with fail
    refine HP.out.mono ?_
    rintro e w3 ⟨m, t, st, r, mi, S, fs, rfl, hh, hF, hb3⟩
    have bx := Box.new w3 26 #[.string m, .string t, .int .i64 st, .string r, .int .i64 mi, .slice S.A S.n S.c]
    have b3 := bon (bon hb2 hb3) (ba1 w3 (.cells #[.string m, .string t, .int .i64 st, .string r, .int .i64 mi, .slice S.A S.n S.c] 26))
    have HF3 := Lib.hid (hF.up (ba1 w3 (.cells #[.string m, .string t, .int .i64 st, .string r, .int .i64 mi, .slice S.A S.n S.c] 26)))
    obtain ⟨qh, qe⟩ := q0
    simp only at hh
    subst hh
    clear hF hb3 HP hTW
    by_cases he : qe = 0
    case neg =>
      have hz := parse_err (l := dl s) (a := a) (by rw [HQ.out]; exact he)
      rw [HQ.out] at hz
      obtain ⟨rfl, rfl, rfl, rfl, rfl, rfl⟩ := zero_of hz
      have e4 : (qe != 0) = true := bne_iff_ne.2 he
      have HC4 := Lib.hid (heads_same ⟨#[]⟩ ⟨#[]⟩ 0 ⟨#[]⟩ 0 S ⟨none, 0, 0⟩ [] _ HF3.out (fs_nil _))
      simp only at HC4
      clear he hz HQ
      go_wp2_with fail
      refine HC4.out.mono ?_
      rintro e w5 ⟨rfl, hb5⟩
      go_wp2
      go_ret
      exact ⟨by rfl, bon b3 hb5⟩
    subst he
    have hpr := parse_right (s := dl s) (a := a) (by rw [HQ.out])
    rw [HQ.out, dl_len] at hpr
    simp only at hpr
    obtain ⟨hright, hlen0⟩ := hpr
    have hlen : (textH (hdOf m t st r mi fs) a).length ≤ 2004 := by omega
    obtain ⟨zm, zt, zr, zn, zf⟩ := right_few hright
    have hn := HF3.out.len
    have HPr := Lib.hid (print_any m t st r mi S.A S.n S.c fs a _ zm zt zr HF3.out (by omega) zf (hT.up b3))
    rw [print_ok hright hlen] at HPr
    have HRi : Hid (∀ W', Fs W' S fs → Calls Tryd.prog 16 #[.agg #[.string m, .string t, .int .i64 st, .string r, .int .i64 mi, .slice S.A S.n S.c], .bool a] W' (BoolEnds true W')) := Lib.hid (fun W' hW => by
      have := right_any m t st r mi S.A S.n S.c fs a W' zm zt zr hW (by omega) zf
      rw [hright] at this
      exact this)
    have HBK := Lib.hid (back_H hright hlen)
    have HLn := Lib.hid hlen
    clear hright hlen hlen0 zm zt zr zn zf hn HQ
    go_wp2_with fail
    refine HPr.out.mono ?_
    rintro e w4 ⟨u, rfl, hu, hb4⟩
    simp only at hu
    obtain ⟨h4u, _, htk⟩ := text_cut hu
    have HPa : Hid (parseH (dl (u.extract 0 (u.size - 4))) a = (hdOf m t st r mi fs, 0)) := Lib.hid (by rw [htk]; exact HBK.out)
    have husz : u.size ≤ 2004 := by rw [← dl_len, hu]; exact HLn.out
    have bx4 := bx.up hb4
    have b4 := bon b3 hb4
    have HF4 := Lib.hid (HF3.out.up hb4)
    obtain ⟨g, hg⟩ : ∃ g, w3.heap.size = g := ⟨_, rfl⟩
    rw [hg] at bx4 ⊢
    clear hg bx b3 HF3 HBK hb4 htk hu HPr HLn
    obtain ⟨p0, p1, p2, p3, p4, p5⟩ := bx4.six
    go_wp2_with fail
    refine (HRi.out _ HF4.out).mono ?_
    rintro e w5 ⟨rfl, hb5⟩
    have bx5 := bx4.up hb5
    have b5 := bon b4 hb5
    have HF5 := Lib.hid (HF4.out.up hb5)
    clear p0 p1 p2 p3 p4 p5 bx4 b4 HF4 hb5 HRi
    have hui : ¬ (u.size : Int) < 4 := by omega
    have hs1 : ((u.size : Int) - 4).toNat = u.size - 4 := by omega
    have hs2 : (0 : Int) ≤ (u.size : Int) - 4 := by omega
    have hs3 : (u.size : Int) - 4 ≤ (u.size : Int) := by omega
    have HPP := Lib.hid (hparse_any (u.extract 0 (u.size - 4)) a w5 (by rw [ByteArray.size_extract]; omega) (hT.up b5).mx)
    rw [HPa.out] at HPP
    clear HPa
    go_wp2_with fail
    refine HPP.out.mono ?_
    rintro e w6 ⟨m2, t2, st2, r2, mi2, S2, fs2, rfl, hh, hF6, hb6⟩
    obtain ⟨rfl, rfl, rfl, rfl, rfl, rfl⟩ := hdOf_inj hh
    clear hh
    have b6 := bon hb6 (ba1 w6 (.cells #[.string m2, .string t2, .int .i64 st2, .string r2, .int .i64 mi2, .slice S2.A S2.n S2.c] 26))
    have bx6 := bx5.up b6
    have by6 := Box.new w6 26 #[.string m2, .string t2, .int .i64 st2, .string r2, .int .i64 mi2, .slice S2.A S2.n S2.c]
    have HC6 := Lib.hid (heads_same m2 t2 st2 r2 mi2 S2 S fs2 _ (hF6.up (ba1 w6 (.cells #[.string m2, .string t2, .int .i64 st2, .string r2, .int .i64 mi2, .slice S2.A S2.n S2.c] 26))) (HF5.out.up b6))
    obtain ⟨p0, p1, p2, p3, p4, p5⟩ := bx6.six
    obtain ⟨q0, q1, q2, q3, q4, q5⟩ := by6.six
    have hfin := bon b5 b6
    clear bx5 bx6 by6 hF6 hb6 b6 HF5
    go_wp2_with fail
    refine HC6.out.mono ?_
    rintro e w7 ⟨rfl, hb7⟩
    go_wp2
    go_ret
    exact ⟨by rfl, bon hfin hb7⟩
end Go.Proofs.YteefjcllbnmegaaDoor
