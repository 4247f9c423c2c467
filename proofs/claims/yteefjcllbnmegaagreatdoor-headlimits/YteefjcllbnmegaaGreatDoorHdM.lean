/-
  The walks of the laws' own same, told and awake.
-/
import Derived.Test.YteefjcllbnmegaaGreatDoorHdL
namespace Go.Proofs.YteefjcllbnmegaaGreatDoor
open Go.RowKit

theorem bool_cell {W : World} {g : Nat} (h : Box W g 4 #[.bool false, .bool true]) {k : Nat} (hk : k < 2) : ∃ a, W.cell? ⟨g, k, none⟩ = some (.bool a) := by
  match k, hk with
  | 0, _ => exact ⟨false, h.c 0 rfl⟩
  | 1, _ => exact ⟨true, h.c 1 rfl⟩

set_option maxRecDepth 100000 in
set_option maxHeartbeats 2000000 in
theorem same_any (s : ByteArray) (hs : s.size ≤ 4611686018427387904) (w : World) (hT : Tabs w) : Calls Tryz.prog 7 #[.string s] w (BoolEnds true w) := by
  go_enter Tryz.func7, Tryz.ntmps7
  go_wp2_with fail
  have hb0 := ba1 w (.cells #[.bool false, .bool true] 4)
  have bx := Box.new w 4 #[.bool false, .bool true]
  obtain ⟨g, hg⟩ : ∃ g, w.heap.size = g := ⟨_, rfl⟩
  rw [hg] at bx ⊢
  generalize w.alloc (.cells #[.bool false, .bool true] 4) = W0 at *
  go_loopw [11] (fun i wr => ∃ k : Nat, k ≤ 2 ∧ i = .int .i64 (k : Int) ∧ Hid (Below W0.heap.size W0 wr)) (fun i _ => 2 - (intOf i).toNat)
  case atStart => exact ⟨0, by omega, rfl, Lib.hid (Below.refl _ _)⟩
  case round =>
    obtain ⟨k, hk, rfl, HB⟩ := hrel
    by_cases hlt : k < 2
    · obtain ⟨a, ha⟩ := bool_cell (bx.up HB.out) hlt
      have hki : (k : Int) < 2 := by omega
      have hk0 : (0 : Int) ≤ (k : Int) := by omega
      obtain ⟨q, hq⟩ : ∃ q, parseH (dl s) a = q := ⟨_, rfl⟩
      have HP := Lib.hid (fun W hM => hparse_any s a W hs hM)
      have HR := Lib.hid (fun W => rparseH_any s a W hs)
      rw [hq] at HP HR
      clear hq
      have hM := (hT.up (bon hb0 HB.out)).mx
      go_wp2_with fail
      refine (HP.out _ hM).mono ?_
      rintro e w1 ⟨m, t, st, r, mi, S, fs, rfl, hh, hS, hb1⟩
      go_wp2_with fail
      refine (HR.out _).mono ?_
      rintro e w2 ⟨m', t', st', r', mi', S', fs', rfl, hh', hS', hb2⟩
      obtain ⟨rfl, rfl, rfl, rfl, rfl, rfl⟩ := hdOf_inj (hh.trans hh'.symm)
      clear hh hh'
      have x1 := ((Box.new w1 30 #[.string m, .string t, .int .i64 st, .string r, .int .i64 mi, .slice S.A S.n S.c]).up hb2).alloc (.cells #[.string m, .string t, .int .i64 st, .string r, .int .i64 mi, .slice S'.A S'.n S'.c] 30)
      have x2 := Box.new w2 30 #[.string m, .string t, .int .i64 st, .string r, .int .i64 mi, .slice S'.A S'.n S'.c]
      obtain ⟨p0, p1, p2, p3, p4, p5⟩ := x1.six
      obtain ⟨q0, q1, q2, q3, q4, q5⟩ := x2.six
      have HS1 := Lib.hid (((hS.up (ba1 w1 (.cells #[.string m, .string t, .int .i64 st, .string r, .int .i64 mi, .slice S.A S.n S.c] 30))).up hb2).up (ba1 w2 (.cells #[.string m, .string t, .int .i64 st, .string r, .int .i64 mi, .slice S'.A S'.n S'.c] 30)))
      have HS2 := Lib.hid (hS'.up (ba1 w2 (.cells #[.string m, .string t, .int .i64 st, .string r, .int .i64 mi, .slice S'.A S'.n S'.c] 30)))
      have HB2 := Lib.hid (bon (bon (bon (bon HB.out hb1) (ba1 w1 (.cells #[.string m, .string t, .int .i64 st, .string r, .int .i64 mi, .slice S.A S.n S.c] 30))) hb2) (ba1 w2 (.cells #[.string m, .string t, .int .i64 st, .string r, .int .i64 mi, .slice S'.A S'.n S'.c] 30)))
      clear hS hS' hb1 hb2 HB ha x1 x2 HP HR hM
      have HC := Lib.hid (heads_same m t st r mi S S' fs _ HS1.out HS2.out)
      go_wp2_with fail
      refine HC.out.mono ?_
      rintro e w3 ⟨rfl, hb3⟩
      go_wp2
      go_roundw
      case rel => exact ⟨k + 1, by omega, by go_num, Lib.hid (bon HB2.out hb3)⟩
      case measure => simp [intOf]; omega
    · obtain rfl : k = 2 := by omega
      go_wp2
      go_ret
      exact ⟨rfl, bon hb0 HB.out⟩

theorem held6 {W1 w w' : World} {a0 a1 a2 a3 a4 a5 : Addr} {v0 v1 v2 v3 v4 v5 : Value} (hb : Below w.heap.size w w') (h : Below W1.heap.size W1 w ∧ w.cell? a0 = some v0 ∧ w.cell? a1 = some v1 ∧ w.cell? a2 = some v2 ∧ w.cell? a3 = some v3 ∧ w.cell? a4 = some v4 ∧ w.cell? a5 = some v5) :
    Below W1.heap.size W1 w' ∧ w'.cell? a0 = some v0 ∧ w'.cell? a1 = some v1 ∧ w'.cell? a2 = some v2 ∧ w'.cell? a3 = some v3 ∧ w'.cell? a4 = some v4 ∧ w'.cell? a5 = some v5 :=
  ⟨bon h.1 hb, cell_up hb h.2.1, cell_up hb h.2.2.1, cell_up hb h.2.2.2.1, cell_up hb h.2.2.2.2.1, cell_up hb h.2.2.2.2.2.1, cell_up hb h.2.2.2.2.2.2⟩

set_option maxRecDepth 100000 in
set_option maxHeartbeats 4000000 in
theorem told_any (m t : ByteArray) (st : Int) (r : ByteArray) (mi : Int) (A : Option Addr) (n c : Nat) (fs : List Fd) (w : World) (hm : m.size ≤ 4096) (ht : t.size ≤ 4096) (hr : r.size ≤ 4096) (hL : Fs w ⟨A, n, c⟩ fs) (hn : n ≤ 4096) (hf : Few fs) (hT : Tabs w) :
    Calls Tryz.prog 11 #[.agg #[.string m, .string t, .int .i64 st, .string r, .int .i64 mi, .slice A n c]] w (BoolEnds true w) := by
  go_enter Tryz.func11, Tryz.ntmps11
  go_wp2_with fail
  have hb0 := ba2 w (.cells #[.string m, .string t, .int .i64 st, .string r, .int .i64 mi, .slice A n c] 30) (.cells #[.bool false, .bool true] 4)
  have bh := (Box.new w 30 #[.string m, .string t, .int .i64 st, .string r, .int .i64 mi, .slice A n c]).alloc (.cells #[.bool false, .bool true] 4)
  have bx := Box.new (w.alloc (.cells #[.string m, .string t, .int .i64 st, .string r, .int .i64 mi, .slice A n c] 30)) 4 #[.bool false, .bool true]
  have HL := Lib.hid (hL.up hb0)
  have hT0 := hT.up hb0
  have hsz : (w.alloc (.cells #[.string m, .string t, .int .i64 st, .string r, .int .i64 mi, .slice A n c] 30)).heap.size = w.heap.size + 1 := by simp
  rw [hsz] at bx
  clear hsz hL hT
  obtain ⟨g, hg⟩ : ∃ g, w.heap.size = g := ⟨_, rfl⟩
  rw [hg] at bx bh ⊢
  clear hg
  obtain ⟨g2, hg2⟩ : ∃ g2, g + 1 = g2 := ⟨_, rfl⟩
  rw [hg2] at bx ⊢
  clear hg2
  generalize (w.alloc (.cells #[.string m, .string t, .int .i64 st, .string r, .int .i64 mi, .slice A n c] 30)).alloc (.cells #[.bool false, .bool true] 4) = W0 at *
  go_loopw [11] (fun i wr => ∃ k : Nat, k ≤ 2 ∧ i = .int .i64 (k : Int) ∧ Hid (Below W0.heap.size W0 wr)) (fun i _ => 2 - (intOf i).toNat)
  case atStart => exact ⟨0, by omega, rfl, Lib.hid (Below.refl _ _)⟩
  case round =>
    obtain ⟨k, hk, rfl, HB⟩ := hrel
    by_cases hlt : k < 2
    · obtain ⟨a, ha⟩ := bool_cell (bx.up HB.out) hlt
      have hki : (k : Int) < 2 := by omega
      have hk0 : (0 : Int) ≤ (k : Int) := by omega
      obtain ⟨q, hq⟩ : ∃ q, printH (hdOf m t st r mi fs) a = q := ⟨_, rfl⟩
      obtain ⟨b, hb⟩ : ∃ b, rightB (hdOf m t st r mi fs) a = b := ⟨_, rfl⟩
      have HP : Hid (∀ W, Below W0.heap.size W0 W → Calls Tryz.prog 13 #[.agg #[.string m, .string t, .int .i64 st, .string r, .int .i64 mi, .slice A n c], .bool a] W (PrintEnds q W)) := Lib.hid (fun W h => by rw [← hq]; exact print_any m t st r mi A n c fs a W hm ht hr (HL.out.up h) hn hf (hT0.up h))
      have HQ : Hid (∀ W, Below W0.heap.size W0 W → Calls Tryz.prog 19 #[.agg #[.string m, .string t, .int .i64 st, .string r, .int .i64 mi, .slice A n c], .bool a] W (PrintEnds q W)) := Lib.hid (fun W h => by rw [← hq]; exact rprint_any m t st r mi A n c fs a W hm ht hr (HL.out.up h) hn hf)
      have HR : Hid (∀ W, Below W0.heap.size W0 W → Calls Tryz.prog 14 #[.agg #[.string m, .string t, .int .i64 st, .string r, .int .i64 mi, .slice A n c], .bool a] W (BoolEnds b W)) := Lib.hid (fun W h => by rw [← hb]; exact right_any m t st r mi A n c fs a W hm ht hr (HL.out.up h) hn hf)
      have HS : Hid (∀ W, Below W0.heap.size W0 W → Calls Tryz.prog 20 #[.agg #[.string m, .string t, .int .i64 st, .string r, .int .i64 mi, .slice A n c], .bool a] W (BoolEnds b W)) := Lib.hid (fun W h => by rw [← hb]; exact rright_any m t st r mi A n c fs a W hm ht hr (HL.out.up h) hn hf)
      clear hq hb
      obtain ⟨c0, c1, c2, c3, c4, c5⟩ := (bh.up HB.out).six
      go_wp2_with fail
      refine (HP.out _ HB.out).mono ?_
      rintro e w1 ⟨s, rfl, hs, hb1⟩
      have HB1 := Lib.hid (bon HB.out hb1)
      clear c0 c1 c2 c3 c4 c5 hb1 ha HB
      obtain ⟨c0, c1, c2, c3, c4, c5⟩ := (bh.up HB1.out).six
      go_wp2_with fail
      refine (HQ.out _ HB1.out).mono ?_
      rintro e w2 ⟨s', rfl, hs', hb2⟩
      obtain rfl : s = s' := dl_inj (hs.trans hs'.symm)
      have HB2 := Lib.hid (bon HB1.out hb2)
      clear c0 c1 c2 c3 c4 c5 hb2 HB1 hs hs' HP HQ
      obtain ⟨c0, c1, c2, c3, c4, c5⟩ := (bh.up HB2.out).six
      have hB2 := HB2.out
      go_wp2_with fail
      go_region_held3 (fun w' => Below w2.heap.size w2 w' ∧ w'.cell? ⟨g, 0, none⟩ = some (.string m) ∧ w'.cell? ⟨g, 1, none⟩ = some (.string t) ∧ w'.cell? ⟨g, 2, none⟩ = some (.int .i64 st) ∧ w'.cell? ⟨g, 3, none⟩ = some (.string r) ∧ w'.cell? ⟨g, 4, none⟩ = some (.int .i64 mi) ∧ w'.cell? ⟨g, 5, none⟩ = some (.slice A n c))
        (first | exact held6 hbP (by assumption) | exact ⟨(Below.refl _ _).drew, c0, c1, c2, c3, c4, c5⟩)
        (first
          | (go_at_call 14; refine (HR.out _ (bon hB2 ?_)).mono ?_; (simp only [*]); rintro e wP ⟨rfl, hbP⟩)
          | (go_at_call 20; refine (HS.out _ (bon hB2 ?_)).mono ?_; (simp only [*]); rintro e wP ⟨rfl, hbP⟩))
      rename_i hHeld
      have hfin := hHeld.1
      clear hHeld c0 c1 c2 c3 c4 c5
      go_wp2
      go_roundw
      case rel => exact ⟨k + 1, by omega, by go_num, Lib.hid (bon hB2 hfin)⟩
      case measure => simp [intOf]; omega
    · obtain rfl : k = 2 := by omega
      go_wp2
      go_ret
      exact ⟨rfl, bon hb0 HB.out⟩

/-! awake -/
abbrev awM : ByteArray := ⟨#[71, 69, 84]⟩
abbrev awT : ByteArray := ⟨#[47, 97]⟩
abbrev awR : ByteArray := ⟨#[78, 111, 116, 32, 70, 111, 117, 110, 100]⟩
abbrev awF : List Fd := [(⟨#[72, 111, 115, 116]⟩, ⟨#[120]⟩)]
theorem aw1 : parseH (dl ⟨#[71, 69, 84, 32, 47, 97, 32, 72, 84, 84, 80, 47, 49, 46, 49, 13, 10, 72, 111, 115, 116, 58, 32, 120]⟩) false = (hdOf awM awT 0 ⟨#[]⟩ 1 awF, 0) := by kernel_rfl
theorem aw3 : parseH (dl ⟨#[72, 84, 84, 80, 47, 49, 46, 48, 32, 52, 48, 52, 32, 78, 111, 116, 32, 70, 111, 117, 110, 100]⟩) true = (hdOf ⟨#[]⟩ ⟨#[]⟩ 404 awR 0 [], 0) := by kernel_rfl
theorem aw4 : (parseH (dl ⟨#[71, 69, 84, 32, 47, 97, 32, 72, 84, 84, 80, 47, 50, 46, 48]⟩) false).2 = 24 := by kernel_rfl
theorem aw5 : (parseH (dl ⟨#[71, 69, 84, 32, 47, 97]⟩) false).2 = 20 := by kernel_rfl
theorem aw6 : rightB (hdOf awM awT 0 ⟨#[]⟩ 1 awF) false = true := by kernel_rfl
theorem aw7 : rightB (hdOf awM awT 0 ⟨#[]⟩ 1 awF) true = false := by kernel_rfl
theorem aw8 : textH (hdOf awM awT 0 ⟨#[]⟩ 1 awF) false = dl ⟨#[71, 69, 84, 32, 47, 97, 32, 72, 84, 84, 80, 47, 49, 46, 49, 13, 10, 72, 111, 115, 116, 58, 32, 120, 13, 10, 13, 10]⟩ := by
  have e : verT 1 = [72, 84, 84, 80, 47, 49, 46, 49] := by
    show [72, 84, 84, 80, 47, 49, 46] ++ textN 1 10 = _
    rw [text_01 (.inr rfl)]
    rfl
  have e0 : textH (hdOf awM awT 0 ⟨#[]⟩ 1 awF) false = dl awM ++ [32] ++ dl awT ++ [32] ++ verT 1 ++ crlf ++ fT awF ++ crlf := rfl
  rw [e0, e]
  decide
theorem aw2 : printH (hdOf awM awT 0 ⟨#[]⟩ 1 awF) false = (dl ⟨#[71, 69, 84, 32, 47, 97, 32, 72, 84, 84, 80, 47, 49, 46, 49, 13, 10, 72, 111, 115, 116, 58, 32, 120, 13, 10, 13, 10]⟩, 0) := by
  rw [print_ok aw6 (by rw [aw8]; decide), aw8]
theorem awFew : Few awF := by
  intro f hf
  simp only [List.mem_cons, List.not_mem_nil, or_false] at hf
  subst hf
  decide

set_option maxRecDepth 100000 in
set_option maxHeartbeats 4000000 in
theorem awake_any (w : World) (hT : Tabs w) : Calls Tryz.prog 6 #[] w (BoolEnds true w) := by
  have H1 : Hid (∀ W, Mx W → Calls Tryz.prog 12 #[.string ⟨#[71, 69, 84, 32, 47, 97, 32, 72, 84, 84, 80, 47, 49, 46, 49, 13, 10, 72, 111, 115, 116, 58, 32, 120]⟩, .bool false] W fun e w' => ∃ S : Sli, e = .returned (.tuple #[.agg #[.string awM, .string awT, .int .i64 0, .string ⟨#[]⟩, .int .i64 1, .slice S.A S.n S.c], .int .i64 0]) ∧ Fs w' S awF ∧ Below W.heap.size W w') := Lib.hid (fun W hM => by
    refine (hparse_any ⟨#[71, 69, 84, 32, 47, 97, 32, 72, 84, 84, 80, 47, 49, 46, 49, 13, 10, 72, 111, 115, 116, 58, 32, 120]⟩ false W (by decide) hM).mono ?_
    rintro e w' ⟨m, t, st, r, mi, S, fs, rfl, hh, hS, hb⟩
    rw [aw1] at hh ⊢
    obtain ⟨rfl, rfl, rfl, rfl, rfl, rfl⟩ := hdOf_inj hh
    exact ⟨S, rfl, hS, hb⟩)
  have H3 : Hid (∀ W, Mx W → Calls Tryz.prog 12 #[.string ⟨#[72, 84, 84, 80, 47, 49, 46, 48, 32, 52, 48, 52, 32, 78, 111, 116, 32, 70, 111, 117, 110, 100]⟩, .bool true] W fun e w' => ∃ S : Sli, e = .returned (.tuple #[.agg #[.string ⟨#[]⟩, .string ⟨#[]⟩, .int .i64 404, .string awR, .int .i64 0, .slice S.A S.n S.c], .int .i64 0]) ∧ Below W.heap.size W w') := Lib.hid (fun W hM => by
    refine (hparse_any ⟨#[72, 84, 84, 80, 47, 49, 46, 48, 32, 52, 48, 52, 32, 78, 111, 116, 32, 70, 111, 117, 110, 100]⟩ true W (by decide) hM).mono ?_
    rintro e w' ⟨m, t, st, r, mi, S, fs, rfl, hh, hS, hb⟩
    rw [aw3] at hh ⊢
    obtain ⟨rfl, rfl, rfl, rfl, rfl, rfl⟩ := hdOf_inj hh
    exact ⟨S, rfl, hb⟩)
  have H4 : Hid (∀ W, Mx W → Calls Tryz.prog 12 #[.string ⟨#[71, 69, 84, 32, 47, 97, 32, 72, 84, 84, 80, 47, 50, 46, 48]⟩, .bool false] W fun e w' => ∃ (m t : ByteArray) (st : Int) (r : ByteArray) (mi : Int) (S : Sli), e = .returned (.tuple #[.agg #[.string m, .string t, .int .i64 st, .string r, .int .i64 mi, .slice S.A S.n S.c], .int .i64 24]) ∧ Below W.heap.size W w') := Lib.hid (fun W hM => by
    refine (hparse_any ⟨#[71, 69, 84, 32, 47, 97, 32, 72, 84, 84, 80, 47, 50, 46, 48]⟩ false W (by decide) hM).mono ?_
    rintro e w' ⟨m, t, st, r, mi, S, fs, rfl, hh, hS, hb⟩
    rw [aw4]
    exact ⟨m, t, st, r, mi, S, rfl, hb⟩)
  have H5 : Hid (∀ W, Mx W → Calls Tryz.prog 12 #[.string ⟨#[71, 69, 84, 32, 47, 97]⟩, .bool false] W fun e w' => ∃ (m t : ByteArray) (st : Int) (r : ByteArray) (mi : Int) (S : Sli), e = .returned (.tuple #[.agg #[.string m, .string t, .int .i64 st, .string r, .int .i64 mi, .slice S.A S.n S.c], .int .i64 20]) ∧ Below W.heap.size W w') := Lib.hid (fun W hM => by
    refine (hparse_any ⟨#[71, 69, 84, 32, 47, 97]⟩ false W (by decide) hM).mono ?_
    rintro e w' ⟨m, t, st, r, mi, S, fs, rfl, hh, hS, hb⟩
    rw [aw5]
    exact ⟨m, t, st, r, mi, S, rfl, hb⟩)
  have H2 : Hid (∀ (S : Sli) W, Fs W S awF → Tabs W → Calls Tryz.prog 13 #[.agg #[.string awM, .string awT, .int .i64 0, .string ⟨#[]⟩, .int .i64 1, .slice S.A S.n S.c], .bool false] W fun e w' => e = .returned (.tuple #[.string ⟨#[71, 69, 84, 32, 47, 97, 32, 72, 84, 84, 80, 47, 49, 46, 49, 13, 10, 72, 111, 115, 116, 58, 32, 120, 13, 10, 13, 10]⟩, .int .i64 0]) ∧ Below W.heap.size W w') := Lib.hid (fun S W hS hT => by
    have hn := hS.len
    refine (print_any awM awT 0 ⟨#[]⟩ 1 S.A S.n S.c awF false W (by decide) (by decide) (by decide) hS (by rw [← hn]; decide) awFew hT).mono ?_
    rintro e w' ⟨s, rfl, hs, hb⟩
    rw [aw2] at hs ⊢
    obtain rfl : s = ⟨#[71, 69, 84, 32, 47, 97, 32, 72, 84, 84, 80, 47, 49, 46, 49, 13, 10, 72, 111, 115, 116, 58, 32, 120, 13, 10, 13, 10]⟩ := dl_inj hs
    exact ⟨rfl, hb⟩)
  have H6 : Hid (∀ (S : Sli) (a b : Bool) W, Fs W S awF → rightB (hdOf awM awT 0 ⟨#[]⟩ 1 awF) a = b → Calls Tryz.prog 14 #[.agg #[.string awM, .string awT, .int .i64 0, .string ⟨#[]⟩, .int .i64 1, .slice S.A S.n S.c], .bool a] W (BoolEnds b W)) := Lib.hid (fun S a b W hS hb => by
    have hn := hS.len
    rw [← hb]
    exact right_any awM awT 0 ⟨#[]⟩ 1 S.A S.n S.c awF a W (by decide) (by decide) (by decide) hS (by rw [← hn]; decide) awFew)
  go_enter Tryz.func6, Tryz.ntmps6
  go_wp2_with fail
  refine (H1.out _ hT.mx).mono ?_
  rintro e w1 ⟨S, rfl, hS, hb1⟩
  have hbA := bon hb1 (ba1 w1 (.cells #[.string awM, .string awT, .int .i64 0, .string ⟨#[]⟩, .int .i64 1, .slice S.A S.n S.c] 30))
  have HS1 := Lib.hid (hS.up (ba1 w1 (.cells #[.string awM, .string awT, .int .i64 0, .string ⟨#[]⟩, .int .i64 1, .slice S.A S.n S.c] 30)))
  have bx1 := Box.new w1 30 #[.string awM, .string awT, .int .i64 0, .string ⟨#[]⟩, .int .i64 1, .slice S.A S.n S.c]
  clear hS hb1 H1
  go_wp2_with fail
  refine (H2.out S _ HS1.out (hT.up hbA)).mono ?_
  rintro e w2 ⟨rfl, hb2⟩
  have hbB := bon hbA hb2
  have bx2 := bx1.up hb2
  have HS2 := Lib.hid (HS1.out.up hb2)
  obtain ⟨g, hg⟩ : ∃ g, w1.heap.size = g := ⟨_, rfl⟩
  rw [hg] at bx2 ⊢
  clear hg bx1 HS1 hbA hb2 H2
  go_wp2_with fail
  refine (H3.out _ (hT.up hbB).mx).mono ?_
  rintro e w3 ⟨S3, rfl, hb3⟩
  have b3 := bon hb3 (ba1 w3 (.cells #[.string ⟨#[]⟩, .string ⟨#[]⟩, .int .i64 404, .string awR, .int .i64 0, .slice S3.A S3.n S3.c] 30))
  have hbC := bon hbB b3
  have bx3 := bx2.up b3
  have HS3 := Lib.hid (HS2.out.up b3)
  have by3 := Box.new w3 30 #[.string ⟨#[]⟩, .string ⟨#[]⟩, .int .i64 404, .string awR, .int .i64 0, .slice S3.A S3.n S3.c]
  clear bx2 HS2 hbB hb3 b3 H3
  go_wp2_with fail
  refine (H4.out _ (hT.up hbC).mx).mono ?_
  rintro e w4 ⟨m4, t4, st4, r4, mi4, S4, rfl, hb4⟩
  have b4 := bon hb4 (ba1 w4 (.cells #[.string m4, .string t4, .int .i64 st4, .string r4, .int .i64 mi4, .slice S4.A S4.n S4.c] 30))
  have hbD := bon hbC b4
  have bx4 := bx3.up b4
  have by4 := by3.up b4
  have HS4 := Lib.hid (HS3.out.up b4)
  obtain ⟨g3, hg3⟩ : ∃ g, w3.heap.size = g := ⟨_, rfl⟩
  rw [hg3] at by4 ⊢
  clear hg3 bx3 by3 HS3 hbC hb4 b4 H4
  go_wp2_with fail
  refine (H5.out _ (hT.up hbD).mx).mono ?_
  rintro e w5 ⟨m5, t5, st5, r5, mi5, S5, rfl, hb5⟩
  have b5 := bon hb5 (ba1 w5 (.cells #[.string m5, .string t5, .int .i64 st5, .string r5, .int .i64 mi5, .slice S5.A S5.n S5.c] 30))
  have hbE := bon hbD b5
  have bx5 := bx4.up b5
  have by5 := by4.up b5
  have HS5 := Lib.hid (HS4.out.up b5)
  clear bx4 by4 HS4 hbD hb5 b5 H5
  obtain ⟨p0, p1, p2, p3, p4, p5⟩ := bx5.six
  obtain ⟨q0, q1, q2, q3, q4, q5⟩ := by5.six
  go_wp2_with fail
  refine (H6.out S false true _ HS5.out aw6).mono ?_
  rintro e w6 ⟨rfl, hb6⟩
  have bx6 := bx5.up hb6
  have HS6 := Lib.hid (HS5.out.up hb6)
  have hbF := bon hbE hb6
  clear p0 p1 p2 p3 p4 p5 q0 q1 q2 q3 q4 q5 bx5 by5 HS5 hbE hb6
  obtain ⟨p0, p1, p2, p3, p4, p5⟩ := bx6.six
  go_wp2_with fail
  refine (H6.out S true false _ HS6.out aw7).mono ?_
  rintro e w7 ⟨rfl, hb7⟩
  go_wp2
  go_ret
  exact ⟨by rfl, bon hbF hb7⟩
end Go.Proofs.YteefjcllbnmegaaGreatDoor
