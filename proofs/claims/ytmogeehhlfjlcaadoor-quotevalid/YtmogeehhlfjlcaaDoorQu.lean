/-
  The walk of quote's own written.
-/
import Derived.Test.YtmogeehhlfjlcaaDoorQt
import Derived.Laws.Runes
namespace Go.Proofs.YtmogeehhlfjlcaaDoor
open Go.RowKit

theorem rep48 (c : Nat) : Lib.repeatL [48] c = List.replicate c 48 := by
  have h := Lib.repeatL_replicate 48 1 c
  rw [show List.replicate 1 (48 : UInt8) = [48] from rfl, Nat.mul_one] at h
  exact h
theorem conv_ch {ch : Bs} (hc : charB ch = true) (W : World) : (convert 21 9 (.int .i32 (cpL ch : Int))).run Tryd.prog W = .ok (.string (tb ch)) W := by
  obtain ⟨h1, h2, h3, _⟩ := enc_cp hc
  rw [run_convert_int_string W 21 9 .i32 _ (by rw [Tryd.underlying21]; rfl) Tryd.underlying9, utf_enc h2 h3, h1]
/-- the text of a character, as it is written -/
def WrEnds (t : Bs) (w : World) (e : Ending) (w' : World) : Prop := e = .returned (.string (tb t)) ∧ Below w.heap.size w w'
theorem dgs_tb {y : ByteArray} {l : Bs} (h : dl y = l) : y = tb l := tb_of h

set_option maxRecDepth 100000 in
set_option maxHeartbeats 2000000 in
/-- what is written as it is -/
theorem wr_plain (ch : Bs) (hc : charB ch = true) (z : Int) (hz : (cpL ch : Int) = z) (h34 : ¬ z = 34) (h92 : ¬ z = 92) (h32 : ¬ z < 32) (w : World) : Calls Tryd.prog 11 #[.int .i32 z] w (WrEnds ch w) := by
  have hcv := fun W => conv_ch hc W
  rw [hz] at hcv
  have h10 : ¬ z = 10 := by omega
  have h13 : ¬ z = 13 := by omega
  have h9 : ¬ z = 9 := by omega
  clear hz hc
  go_enter Tryd.func11, Tryd.ntmps11
  go_wp2
  go_ret
  exact ⟨rfl, Below.refl _ _⟩
set_option maxRecDepth 100000 in
set_option maxHeartbeats 2000000 in
theorem wr_q (w : World) : Calls Tryd.prog 11 #[.int .i32 34] w (WrEnds [92, 34] w) := by
  have hcv : ∀ W, (convert 21 9 (.int .i32 34)).run Tryd.prog W = .ok (.string ⟨#[34]⟩) W := fun W => conv_ch (ch := [34]) (by decide) W
  go_enter Tryd.func11, Tryd.ntmps11
  go_wp2
  go_ret
  exact ⟨rfl, Below.refl _ _⟩
set_option maxRecDepth 100000 in
set_option maxHeartbeats 2000000 in
theorem wr_b (w : World) : Calls Tryd.prog 11 #[.int .i32 92] w (WrEnds [92, 92] w) := by
  have hcv : ∀ W, (convert 21 9 (.int .i32 92)).run Tryd.prog W = .ok (.string ⟨#[92]⟩) W := fun W => conv_ch (ch := [92]) (by decide) W
  go_enter Tryd.func11, Tryd.ntmps11
  go_wp2
  go_ret
  exact ⟨rfl, Below.refl _ _⟩
set_option maxRecDepth 100000 in
set_option maxHeartbeats 2000000 in
theorem wr_n (w : World) : Calls Tryd.prog 11 #[.int .i32 10] w (WrEnds [92, 110] w) := by
  go_enter Tryd.func11, Tryd.ntmps11
  go_wp2
  go_ret
  exact ⟨rfl, Below.refl _ _⟩
set_option maxRecDepth 100000 in
set_option maxHeartbeats 2000000 in
theorem wr_r (w : World) : Calls Tryd.prog 11 #[.int .i32 13] w (WrEnds [92, 114] w) := by
  go_enter Tryd.func11, Tryd.ntmps11
  go_wp2
  go_ret
  exact ⟨rfl, Below.refl _ _⟩
set_option maxRecDepth 100000 in
set_option maxHeartbeats 2000000 in
theorem wr_t (w : World) : Calls Tryd.prog 11 #[.int .i32 9] w (WrEnds [92, 116] w) := by
  go_enter Tryd.func11, Tryd.ntmps11
  go_wp2
  go_ret
  exact ⟨rfl, Below.refl _ _⟩
set_option maxRecDepth 100000 in
set_option maxHeartbeats 2000000 in
/-- a character below 32, by its number -/
theorem wr_ctl (n : Nat) (hn : n < 32) (h9 : n ≠ 9) (h10 : n ≠ 10) (h13 : n ≠ 13) (w : World) (hT : Tabs w) : Calls Tryd.prog 11 #[.int .i32 (n : Int)] w (WrEnds (qb (UInt8.ofNat n)) w) := by
  obtain ⟨k1, k2, k3⟩ := qb_ctl ⟨n, hn⟩ h9 h10 h13
  simp only at k1 k2 k3
  have HTx := Lib.hid (Nm.text_16 (n : Int) w hT (fit_iff.2 ⟨by omega, by omega⟩))
  have htx : textN (n : Int) 16 = dgs 16 n := by rw [textN, if_pos ⟨fit_iff.2 ⟨by omega, by omega⟩, .inr rfl⟩]; simp
  rw [htx] at HTx
  obtain ⟨X, hX⟩ : ∃ X, dgs 16 n = X := ⟨_, rfl⟩
  rw [hX] at HTx k1 k2 k3
  obtain ⟨c, hc⟩ : ∃ c, 4 - X.length = c := ⟨_, rfl⟩
  rw [hc] at k1
  obtain ⟨F, hF⟩ : ∃ F, [92, 117] ++ List.replicate c 48 ++ X = F := ⟨_, rfl⟩
  rw [k1, hF]
  replace hF := Lib.hid hF
  have z0 : ¬ (n : Int) = 34 := by omega
  have z1 : ¬ (n : Int) = 92 := by omega
  have z2 : ¬ (n : Int) = 10 := by omega
  have z3 : ¬ (n : Int) = 13 := by omega
  have z4 : ¬ (n : Int) = 9 := by omega
  have z5 : (n : Int) < 32 := by omega
  have zw : IntKind.i64.wrap (n : Int) = (n : Int) := IntWalk.i64_in _ (by omega)
  clear hX htx k1 hT h9 h10 h13 hn
  generalize (n : Int) = z at *
  go_enter Tryd.func11, Tryd.ntmps11
  go_wp2_with fail
  refine HTx.out.mono ?_
  rintro e w1 ⟨y, rfl, hy, hb1⟩
  have hy2 := tb_of hy
  subst hy2
  clear hy HTx
  have zX : (tb X).size = X.length := tb_size X
  have zc : IntKind.i64.wrap (4 - (X.length : Int)) = (c : Int) := by rw [IntWalk.i64_in _ (by omega)]; omega
  have HRp := Lib.hid (sh_Repeat ⟨#[48]⟩ c (by omega) (by show 1 * c ≤ _; omega) w1)
  rw [show (⟨#[48]⟩ : ByteArray).data.toList = [48] from rfl, rep48] at HRp
  have hcl : c ≤ 3 := by omega
  obtain ⟨Y, hY⟩ : ∃ Y : ByteArray, (⟨(List.replicate c (48 : UInt8)).toArray⟩ : ByteArray) = Y := ⟨_, rfl⟩
  have s1 : Y.size = c := by rw [← hY]; show (tb (List.replicate c 48)).size = c; rw [tb_size, List.length_replicate]
  have a1 : (⟨#[92, 117]⟩ : ByteArray) ++ Y = tb ([92, 117] ++ List.replicate c 48) := by rw [← hY]; exact tb_app [92, 117] (List.replicate c 48)
  obtain ⟨Z, hZ⟩ : ∃ Z, tb ([92, 117] ++ List.replicate c 48) = Z := ⟨_, rfl⟩
  have s2 : Z.size = c + 2 := by rw [← hZ, tb_size]; simp
  have a2 : Z ++ tb X = tb F := by rw [← hZ, ← hF.out]; exact tb_app _ X
  rw [hZ] at a1
  rw [hY] at HRp
  clear hY hZ hF
  go_wp2_with fail
  refine HRp.out.mono ?_
  rintro e w2 ⟨rfl, hb2⟩
  have HB := Lib.hid (bon hb1 hb2)
  have b1 := fun W => run_string_add_sum (P := Tryd.prog) W (⟨#[92, 117]⟩ : ByteArray) Y (by rw [s1]; show 2 + c ≤ _; omega)
  have b2 := fun W => run_string_add_sum (P := Tryd.prog) W Z (tb X) (by rw [s2, zX]; omega)
  rw [a1] at b1
  rw [a2] at b2
  clear a1 a2 s1 s2 zX zc hc hb1 hb2 HRp hcl k2 k3
  go_wp2
  go_ret
  exact ⟨rfl, HB.out⟩
theorem written_any (ch : Bs) (hc : charB ch = true) (w : World) (hT : Tabs w) : Calls Tryd.prog 11 #[.int .i32 (cpL ch : Int)] w (WrEnds (ch.flatMap qb) w) := by
  rcases char_cases hc with ⟨a, rfl, ha⟩ | ⟨h1, a, t, rfl, ha⟩
  · rw [show [a].flatMap qb = qb a by simp]
    have hq : ∀ n : Nat, a.toNat = n → a = UInt8.ofNat n := fun n h => (u8_eq h.symm).symm
    have e : cpL [a] = a.toNat := rfl
    by_cases c1 : a.toNat = 34
    · rw [e, c1, hq 34 c1]; exact wr_q w
    by_cases c2 : a.toNat = 92
    · rw [e, c2, hq 92 c2]; exact wr_b w
    by_cases c3 : a.toNat = 10
    · rw [e, c3, hq 10 c3]; exact wr_n w
    by_cases c4 : a.toNat = 13
    · rw [e, c4, hq 13 c4]; exact wr_r w
    by_cases c5 : a.toNat = 9
    · rw [e, c5, hq 9 c5]; exact wr_t w
    have hne : ∀ m : UInt8, a.toNat ≠ m.toNat → ¬ a = m := fun m h hh => h (by rw [hh])
    by_cases c6 : a.toNat < 32
    · rw [e]
      have h := wr_ctl a.toNat c6 c5 c3 c4 w hT
      rw [UInt8.ofNat_toNat] at h
      exact h
    · have h := wr_plain [a] hc _ rfl (by rw [e]; omega) (by rw [e]; omega) (by rw [e]; omega) w
      have hqb : qb a = [a] := by
        unfold qb
        rw [if_neg (hne 34 c1), if_neg (hne 92 c2), if_neg (hne 10 c3), if_neg (hne 13 c4), if_neg (hne 9 c5), if_neg c6]
      rw [hqb]
      exact h
  · rw [h1]
    have hbig : 128 ≤ cpL (a :: t) := by
      have h := dec_big (a := a) (t := t) ha
      have hw := wid_char hc []
      rw [List.append_nil] at hw
      rw [dec_fst (by rw [hw]; simp), hw, List.take_length] at h
      exact h
    exact wr_plain (a :: t) hc _ rfl (by omega) (by omega) (by omega) w
end Go.Proofs.YtmogeehhlfjlcaaDoor
