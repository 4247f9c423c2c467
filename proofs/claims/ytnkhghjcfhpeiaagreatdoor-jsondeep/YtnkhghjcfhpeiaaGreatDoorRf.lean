/-
  The document's Unquote, walked.
-/
import Derived.Test.YtnkhghjcfhpeiaaGreatDoorJRc
import Derived.Test.YtnkhghjcfhpeiaaGreatDoorJNBits
namespace Go.Proofs.YtnkhghjcfhpeiaaGreatDoor
open Go.RowKit
theorem ur_esc {s out : Bs} {N : Nat} {t : Bs} (h : US s N out) (hd : s.drop N = 92 :: t) : ((escL t).2 = 0 → unqL s = ([], N, 30)) ∧ ((escL t).2 ≠ 0 → US s (N + 1 + (escL t).2) (out ++ (escL t).1)) := by
  obtain ⟨g, h1, h2, h3⟩ := us_fuel h hd
  rw [unqF, if_neg (by decide), if_pos rfl] at h2
  constructor
  · intro h0
    rw [if_pos h0] at h2
    exact h2.symm
  · intro h0
    rw [if_neg h0] at h2
    obtain ⟨k1, k2, k3⟩ := esc_good (l := t) (x := (escL t).1) (n := (escL t).2) rfl h0
    refine ⟨by omega, by rw [List.length_append]; have := h.2.1; omega, g, by omega, ?_⟩
    rw [show s.drop (N + 1 + (escL t).2) = t.drop (escL t).2 by rw [Nat.add_assoc, ← List.drop_drop, hd, Nat.add_comm, List.drop_succ_cons]]
    exact h2
theorem ur_ch {s out : Bs} {N : Nat} {a : UInt8} {t : Bs} (h : US s N out) (hd : s.drop N = a :: t) (h34 : a ≠ 34) (h92 : a ≠ 92) : ((wid (a :: t) = 0 ∨ a.toNat < 32) → unqL s = ([], N, 30)) ∧ (¬ (wid (a :: t) = 0 ∨ a.toNat < 32) → US s (N + wid (a :: t)) (out ++ (a :: t).take (wid (a :: t)))) := by
  obtain ⟨g, h1, h2, h3⟩ := us_fuel h hd
  rw [unqF, if_neg h34, if_neg h92] at h2
  constructor
  · intro h0
    rw [if_pos h0] at h2
    exact h2.symm
  · intro h0
    rw [if_neg h0] at h2
    obtain ⟨k1, k2⟩ := wid_split (l := a :: t) (fun e => h0 (.inl e))
    rw [List.length_cons] at k2
    refine ⟨by omega, by rw [List.length_append, List.length_take, List.length_cons]; have := h.2.1; omega, g, by omega, ?_⟩
    rw [← List.drop_drop, hd]
    exact h2
set_option maxRecDepth 100000 in
set_option maxHeartbeats 4000000 in
theorem runquote_any (s : Bs) (hs : s.length ≤ 1000000) (w : World) : Calls Tryz.prog 76 #[.string (tb s)] w (UnqEnds (unqL s) w) := by
  by_cases h34 : ∃ t, s = 34 :: t
  case neg =>
    rw [us_none h34]
    match s, h34, hs with
    | [], _, _ =>
      have hem := tb_em
      go_enter Tryz.func76, Tryz.ntmps76
      go_wp2
      go_ret3
      exact ⟨rfl, Below.refl _ _⟩
    | a :: t, h34, _ =>
      have hem := tb_ne (l := a :: t) (by simp)
      have hi0 : ∀ W, (Instr.index 9 (.string (tb (a :: t))) (.int .i64 0)).run Tryz.prog W = .ok (.int .u8 (a.toNat : Int)) W := fun W => bidx (l := a :: t) (i := 0) rfl W
      have hz := nat_ne (a := a) (b := 34) (fun e => h34 ⟨t, by rw [e]⟩)
      rw [show ((34 : UInt8).toNat : Int) = 34 from rfl] at hz
      have zl : (0 : Int) < ((t.length + 1 : Nat) : Int) := by omega
      have zs : (tb (a :: t)).size = t.length + 1 := by rw [tb_size]; rfl
      generalize (a.toNat : Int) = z at *
      have hzd : (z == 34) = false := beq_eq_false_iff_ne.2 hz
      go_enter Tryz.func76, Tryz.ntmps76
      go_wp2
      go_ret3
      exact ⟨rfl, Below.refl _ _⟩
  case pos =>
    obtain ⟨t0, hst⟩ := h34
    have hem := tb_ne (l := s) (by rw [hst]; simp)
    have hi0 : ∀ W, (Instr.index 9 (.string (tb s)) (.int .i64 0)).run Tryz.prog W = .ok (.int .u8 34) W := fun W => bidx (l := s) (i := 0) (a := 34) (by rw [hst]; rfl) W
    have HU0 : Hid (US s 1 []) := Lib.hid (by rw [hst]; exact us_start)
    have zs : (tb s).size = s.length := tb_size s
    have hs1 : 1 ≤ s.length := by rw [hst]; simp
    obtain ⟨Q, hQ⟩ : ∃ Q, unqL s = Q := ⟨_, rfl⟩
    rw [hQ]
    have HQ := Lib.hid hQ
    clear hst hQ
    go_enter Tryz.func76, Tryz.ntmps76
    go_wp2_with fail
    clear hi0
    go_loopw [5, 6, 7, 8, 9, 10, 22, 62] (fun o i _ _ _ _ _ _ wr => ∃ (out : Bs) (N : Nat), o = .string (tb out) ∧ i = .int .i64 (N : Int) ∧ N ≤ s.length ∧ out.length ≤ 4 * N ∧ Hid (US s N out) ∧ Hid (Below w.heap.size w wr)) (fun _ i _ _ _ _ _ _ _ => s.length - (intOf i).toNat)
    case atStart => exact ⟨[], 1, rfl, rfl, hs1, by simp, HU0, Lib.hid (Below.refl _ _)⟩
    case round =>
      obtain ⟨out, N, rfl, rfl, hN, hol, HU, HB⟩ := hrel
      by_cases hlt : N < s.length
      case neg =>
        obtain rfl : N = s.length := by omega
        have hq : Q = ([], s.length, 30) := by rw [← HQ.out, us_end HU.out]
        subst hq
        have hji : ¬ (s.length : Int) < (s.length : Int) := by omega
        clear hlt HQ
        go_wp2
        go_ret3
        exact ⟨rfl, HB.out⟩
      case pos =>
        have hji : (N : Int) < (s.length : Int) := by omega
        obtain ⟨a, t, hat⟩ : ∃ a t, s.drop N = a :: t := by
          cases h : s.drop N with
          | nil => have := congrArg List.length h; rw [List.length_drop] at this; simp at this; omega
          | cons a t => exact ⟨a, t, rfl⟩
        have hga : s[N]? = some a := by
          have := List.getElem?_drop (xs := s) (i := N) (j := 0)
          rw [hat] at this
          exact this.symm
        have hix := fun W => bidx hga W
        have htl : t.length + N + 1 = s.length := by
          have := congrArg List.length hat
          rw [List.length_drop, List.length_cons] at this
          omega
        have hxN : (tb s).extract N s.length = tb (a :: t) := by rw [tb_drop, hat]
        have hw1 : IntKind.i64.wrap ((N : Int) + 1) = (N : Int) + 1 := wrp _ (by omega) (by omega)
        have hxN1 : (tb s).extract (N + 1) s.length = tb t := by
          rw [tb_drop, show s.drop (N + 1) = (s.drop N).drop 1 by rw [List.drop_drop], hat]; rfl
        clear hga
        by_cases ha : a = 34
        · subst ha
          have hq : Q = (out, N + 1, 0) := by rw [← HQ.out, us_quote HU.out hat]
          subst hq
          rw [show ((34 : UInt8).toNat : Int) = 34 from rfl] at hix
          clear HQ hxN hxN1
          go_wp2
          go_ret3
          exact ⟨by go_num, HB.out⟩
        · have hz := nat_ne ha
          rw [show ((34 : UInt8).toNat : Int) = 34 from rfl] at hz
          by_cases hb : a = 92
          · subst hb
            rw [show ((92 : UInt8).toNat : Int) = 92 from rfl] at hix hz
            have hes := ur_esc HU.out hat
            have hE := Lib.hid (rescape_any t (by omega) wr)
            have hlo := @esc_good t (escL t).1 (escL t).2 rfl
            obtain ⟨⟨x, n⟩, hxn⟩ : ∃ q, escL t = q := ⟨_, rfl⟩
            rw [hxn] at hes hE hlo
            simp only at hes hlo
            have h1i : (N : Int) + 1 ≤ (s.length : Int) := by omega
            have h3 : ((N : Int) + 1).toNat = N + 1 := by omega
            have h4 : (0 : Int) ≤ (N : Int) + 1 := by omega
            by_cases hn : n = 0
            · subst hn
              have hq : Q = ([], N, 30) := by rw [← HQ.out, hes.1 rfl]
              subst hq
              clear HQ hes hlo hxn hxN ha
              go_wp2_with fail
              refine hE.out.mono ?_
              rintro E w1 ⟨rfl, hb⟩
              have HB1 := bon HB.out hb
              go_wp2
              go_ret3
              exact ⟨rfl, HB1⟩
            · have HU1 := Lib.hid (hes.2 hn)
              obtain ⟨_, g2, g3⟩ := hlo hn
              have hni : ¬ (n : Int) = 0 := by omega
              have hadd := fun W => run_string_add_sum (P := Tryz.prog) W (tb out) (tb x) (by rw [tb_size, tb_size]; omega)
              have hta := tb_app out x
              have hw2 : IntKind.i64.wrap ((N : Int) + 1 + (n : Int)) = ((N + 1 + n : Nat) : Int) := by rw [wrp _ (by omega) (by omega)]; omega
              clear hes hlo hxn hxN ha hn
              go_wp2_with fail
              refine hE.out.mono ?_
              rintro E w1 ⟨rfl, hb⟩
              have HB1 := Lib.hid (bon HB.out hb)
              clear hb hE HB HU
              go_wp2
              go_roundw
              case rel => exact ⟨out ++ x, N + 1 + n, by first | rfl | (rw [hta]), by go_num, by omega, by rw [List.length_append]; omega, HU1, HB1⟩
              case measure => simp [intOf]; omega
          · have hz2 := nat_ne hb
            rw [show ((92 : UInt8).toNat : Int) = 92 from rfl] at hz2
            have hch := ur_ch HU.out hat ha hb
            have hR := Lib.hid (rrune_any (a :: t) wr)
            have hsn := rune_snd (a :: t)
            obtain ⟨⟨c, n⟩, hr⟩ : ∃ q, runeL (a :: t) = q := ⟨_, rfl⟩
            rw [hr] at hR hsn
            simp only at hsn
            have hws := @wid_split (a :: t)
            rw [← hsn] at hch hws
            rw [List.length_cons] at hws
            have hza : (a.toNat < 32) = ((a.toNat : Int) < 32) := by
              refine propext ⟨fun h => by omega, fun h => by omega⟩
            rw [hza] at hch
            clear hza hr hsn ha hb
            have hxt : (tb s).extract N (N + n) = tb ((a :: t).take n) := by
              rw [tb_ext, List.drop_take, hat, show N + n - N = n by omega]
            clear hat
            generalize (a.toNat : Int) = z at *
            have hzd : (z == 34) = false := beq_eq_false_iff_ne.2 hz
            have hzd2 : (z == 92) = false := beq_eq_false_iff_ne.2 hz2
            by_cases hn : n = 0
            · subst hn
              have hq : Q = ([], N, 30) := by rw [← HQ.out, hch.1 (.inl rfl)]
              subst hq
              clear HQ hch hws hxt
              go_wp2_with fail
              refine hR.out.mono ?_
              rintro E w1 ⟨rfl, hb⟩
              have HB1 := bon HB.out hb
              go_wp2
              go_ret3
              exact ⟨rfl, HB1⟩
            · have hni : ¬ (n : Int) = 0 := by omega
              have hnd : ((n : Int) == 0) = false := beq_eq_false_iff_ne.2 hni
              have g2 := (hws hn).2
              by_cases h32 : z < 32
              · have hq : Q = ([], N, 30) := by rw [← HQ.out, hch.1 (.inr h32)]
                subst hq
                clear HQ hch hws hxt hn
                go_wp2_with fail
                refine hR.out.mono ?_
                rintro E w1 ⟨rfl, hb⟩
                have HB1 := bon HB.out hb
                replace h32 : z < 32 := by omega
                have d32 : decide (z < 32) = true := decide_eq_true h32
                go_wp2
                go_ret3
                exact ⟨rfl, HB1⟩
              · have HU1 := Lib.hid (hch.2 (by omega))
                have hadd := fun W => run_string_add_sum (P := Tryz.prog) W (tb out) (tb ((a :: t).take n)) (by rw [tb_size, tb_size, List.length_take]; omega)
                have hta := tb_app out ((a :: t).take n)
                have hlt2 : ((a :: t).take n).length = n := by rw [List.length_take, List.length_cons]; omega
                have hw2 : IntKind.i64.wrap ((N : Int) + (n : Int)) = ((N + n : Nat) : Int) := by rw [wrp _ (by omega) (by omega)]; omega
                have hbn : ((N + n : Nat) : Int) ≤ (s.length : Int) := by omega
                have hbn2 : (N : Int) ≤ ((N + n : Nat) : Int) := by omega
                clear hch hws hn
                generalize (a :: t).take n = X at *
                go_wp2_with fail
                refine hR.out.mono ?_
                rintro E w1 ⟨rfl, hb⟩
                have HB1 := Lib.hid (bon HB.out hb)
                clear hb hR HB HU
                replace h32 : ¬ z < 32 := by omega
                have d32 : decide (z < 32) = false := decide_eq_false h32
                go_wp2
                go_roundw
                case rel => exact ⟨out ++ X, N + n, by first | rfl | (rw [hta]), by go_num, by omega, by rw [List.length_append]; omega, HU1, HB1⟩
                case measure => simp [intOf]; omega
end Go.Proofs.YtnkhghjcfhpeiaaGreatDoor
