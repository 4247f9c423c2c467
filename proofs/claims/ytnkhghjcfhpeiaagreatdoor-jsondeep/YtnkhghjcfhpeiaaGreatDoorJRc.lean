/-
  The document's Valid, walked.
-/
import Derived.Test.YtnkhghjcfhpeiaaGreatDoorJRa
import Derived.Test.YtnkhghjcfhpeiaaGreatDoorJQn
import Derived.Test.YtnkhghjcfhpeiaaGreatDoorJWords
namespace Go.Proofs.YtnkhghjcfhpeiaaGreatDoor
open Go.RowKit

theorem rune_snd (l : Bs) : (runeL l).2 = wid l := by
  unfold runeL
  split
  · rename_i h; exact h.symm
  · rfl
theorem tb_drop (l : Bs) (n : Nat) : (tb l).extract n l.length = tb (l.drop n) := by rw [tb_ext, List.take_length]
theorem tb_ne {l : Bs} (h : l ≠ []) : (tb l).toList.isEmpty = false := by
  rw [isEmp, tb_size]
  exact decide_eq_false (fun e => h (List.eq_nil_of_length_eq_zero e))
theorem tb_em : (tb []).toList.isEmpty = true := by
  rw [isEmp, tb_size]
  exact decide_eq_true rfl
set_option maxRecDepth 100000 in
set_option maxHeartbeats 4000000 in
theorem rvalid_any (s : Bs) (w : World) : Calls Tryz.prog 51 #[.string (tb s)] w (BoolEnds (validL s) w) := by
  obtain ⟨Q, hQ⟩ : ∃ Q, validL s = Q := ⟨_, rfl⟩
  rw [hQ]
  have HQ := Lib.hid hQ
  clear hQ
  go_enter Tryz.func51, Tryz.ntmps51
  go_wp2_with fail
  go_loopw [0, 3, 4, 7] (fun t _ _ _ wr => ∃ l : Bs, t = .string (tb l) ∧ l.length ≤ s.length ∧ Hid (validL l = Q) ∧ Hid (Below w.heap.size w wr)) (fun t _ _ _ _ => szOf t)
  case atStart => exact ⟨s, rfl, Nat.le_refl _, HQ, Lib.hid (Below.refl _ _)⟩
  case round =>
    obtain ⟨l, rfl, hl, HL, HB⟩ := hrel
    by_cases hne : l = []
    · subst hne
      have hq : Q = true := HL.out.symm
      subst hq
      have hem := tb_em
      clear HL HQ
      go_wp2
      go_ret
      exact ⟨rfl, HB.out⟩
    · have hem := tb_ne hne
      have hsn := rune_snd l
      obtain ⟨⟨c, n⟩, hr⟩ : ∃ q, runeL l = q := ⟨_, rfl⟩
      have HR := Lib.hid (rrune_any l wr)
      rw [hr] at HR hsn
      simp only at hsn
      have hws := @wid_split l
      have hst := vl_step hne
      rw [← hsn] at hst hws
      have hlp : 0 < l.length := List.length_pos_iff.2 hne
      clear hr hsn hne
      by_cases h0 : n = 0
      · subst h0
        have hq : Q = false := by
          rw [← HL.out, ← Bool.not_eq_true, valid_iff, hst]
          exact fun h => h.1 rfl
        subst hq
        clear hst hws HL HQ
        go_wp2_with fail
        refine HR.out.mono ?_
        rintro E w1 ⟨rfl, hb⟩
        have HB1 := bon HB.out hb
        go_wp2
        go_ret
        exact ⟨rfl, HB1⟩
      · have hn := (hws h0).2
        have hn0 : ¬ (n : Int) = 0 := by omega
        have hni : (n : Int) ≤ (l.length : Int) := by omega
        have zl : (tb l).size = l.length := tb_size l
        have hx := tb_drop l n
        have HL1 : Hid (validL (l.drop n) = Q) := Lib.hid (by
          rw [← HL.out, Bool.eq_iff_iff, valid_iff, valid_iff, hst]
          exact ⟨fun h => ⟨h0, h⟩, fun h => h.2⟩)
        clear hst hws HL
        go_wp2_with fail
        refine HR.out.mono ?_
        rintro E w1 ⟨rfl, hb⟩
        have HB1 := Lib.hid (bon HB.out hb)
        clear hb HR
        go_wp2
        go_roundw
        case rel => exact ⟨l.drop n, rfl, by rw [List.length_drop]; omega, HL1, HB1⟩
        case measure => simp [szOf, tb_size]; omega
end Go.Proofs.YtnkhghjcfhpeiaaGreatDoor

/-
  The document's utf8, four and escape, walked.
-/
namespace Go.Proofs.YtnkhghjcfhpeiaaGreatDoor
open Go.RowKit

theorem convB (W : World) (bs : Bs) (cs : Array Value) (hcs : cs = (bs.map (fun b => Value.int .u8 (b.toNat : Int))).toArray) : (convert 31 9 (.slice (some ⟨W.heap.size, 0, none⟩) bs.length bs.length)).run Tryz.prog (W.alloc (.cells cs 5)) = .ok (.string (tb bs)) (W.alloc (.cells cs 5)) := by
  subst hcs
  have h := run_convert_bytes_back (P := Tryz.prog) (W.alloc (.cells (bs.map (fun b => Value.int .u8 (b.toNat : Int))).toArray 5)) 31 9 5 ⟨W.heap.size, 0, none⟩ bs.length bs Tryz.underlying31 Tryz.underlying5 Tryz.underlying9 (fun j hj => by
    rw [show (⟨W.heap.size, 0, none⟩ : Addr).add j = ⟨W.heap.size, j, none⟩ by unfold Addr.add; simp; omega]
    exact (Box.new W 5 _).c j (by simp [hj]))
  exact h
theorem div_nat (n d q : Nat) (z : Int) (hz : z = (d : Int)) (h : n / d = q) : ((n : Int).tdiv z = (q : Int)) ∧ ((n : Int) / z = (q : Int)) := by
  subst hz
  constructor
  · rw [Int.tdiv_eq_ediv_of_nonneg (by omega), ← h]; simp
  · rw [← h]; simp
theorem mod_nat (n d q : Nat) (z : Int) (hz : z = (d : Int)) (h : n % d = q) : ((n : Int).tmod z = (q : Int)) ∧ ((n : Int) % z = (q : Int)) := by
  subst hz
  constructor
  · rw [Int.tmod_eq_emod_of_nonneg (by omega), ← h]; simp
  · rw [← h]; simp
theorem w8 (z : Int) (h : 0 ≤ z) (h2 : z ≤ 255) : IntKind.u8.wrap z = z := IntWalk.u8_in _ (by omega)
def TxtEnds (t : Bs) (w : World) (E : Ending) (w' : World) : Prop := E = .returned (.string (tb t)) ∧ Below w.heap.size w w'
set_option maxRecDepth 100000 in
set_option maxHeartbeats 2000000 in
theorem rutf8_any (n : Nat) (hn : n < 1114112) (w : World) : Calls Tryz.prog 116 #[.int .i64 (n : Int)] w (TxtEnds (encU n) w) := by
  unfold encU
  by_cases h1 : n < 128
  · rw [if_pos h1]
    obtain ⟨b1, e1, f1⟩ := byte_of (n := n) (by omega)
    rw [e1]
    have hcv := fun W => convB W [b1] #[.int .u8 (n : Int)] (by simp [f1])
    have k1 : (n : Int) < 128 := by omega
    have v1 : IntKind.u8.wrap (n : Int) = (n : Int) := w8 _ (by omega) (by omega)
    simp only [List.length_cons, List.length_nil] at hcv
    have hb := ba1 w (.cells #[.int .u8 (n : Int)] 5)
    clear e1 f1
    generalize (n : Int) = z at *
    go_enter Tryz.func116, Tryz.ntmps116
    go_wp2
    go_ret
    exact ⟨rfl, hb⟩
  · rw [if_neg h1]
    have k1 : ¬ (n : Int) < 128 := by omega
    by_cases h2 : n < 2048
    · rw [if_pos h2]
      have k2 : (n : Int) < 2048 := by omega
      obtain ⟨q, hq⟩ : ∃ q, n / 64 = q := ⟨_, rfl⟩
      obtain ⟨r, hr⟩ : ∃ q, n % 64 = q := ⟨_, rfl⟩
      obtain ⟨d1, d2⟩ := div_nat n 64 q 64 rfl hq
      obtain ⟨m1, m2⟩ := mod_nat n 64 r 64 rfl hr
      obtain ⟨b1, e1, f1⟩ := byte_of (n := 192 + q) (by omega)
      obtain ⟨b2, e2, f2⟩ := byte_of (n := 128 + r) (by omega)
      rw [hq, hr, e1, e2]
      have hcv := fun W => convB W [b1, b2] #[.int .u8 (192 + (q : Int)), .int .u8 (128 + (r : Int))] (by simp [f1, f2])
      have v1 : IntKind.i64.wrap (q : Int) = (q : Int) := wrp _ (by omega) (by omega)
      have v2 : IntKind.i64.wrap (r : Int) = (r : Int) := wrp _ (by omega) (by omega)
      have v3 : IntKind.i64.wrap (192 + (q : Int)) = 192 + (q : Int) := wrp _ (by omega) (by omega)
      have v4 : IntKind.i64.wrap (128 + (r : Int)) = 128 + (r : Int) := wrp _ (by omega) (by omega)
      have v5 : IntKind.u8.wrap (192 + (q : Int)) = 192 + (q : Int) := w8 _ (by omega) (by omega)
      have v6 : IntKind.u8.wrap (128 + (r : Int)) = 128 + (r : Int) := w8 _ (by omega) (by omega)
      simp only [List.length_cons, List.length_nil] at hcv
      have hb := ba1 w (.cells #[.int .u8 (192 + (q : Int)), .int .u8 (128 + (r : Int))] 5)
      clear e1 f1 e2 f2 hq hr h1 h2
      generalize (n : Int) = z at *
      go_enter Tryz.func116, Tryz.ntmps116
      go_wp2
      go_ret
      exact ⟨rfl, hb⟩
    · rw [if_neg h2]
      have k2 : ¬ (n : Int) < 2048 := by omega
      by_cases h3 : n < 65536
      · rw [if_pos h3]
        have k3 : (n : Int) < 65536 := by omega
        obtain ⟨q, hq⟩ : ∃ q, n / 4096 = q := ⟨_, rfl⟩
        obtain ⟨p, hp⟩ : ∃ q, n / 64 = q := ⟨_, rfl⟩
        obtain ⟨s, hs⟩ : ∃ q, p % 64 = q := ⟨_, rfl⟩
        obtain ⟨r, hr⟩ : ∃ q, n % 64 = q := ⟨_, rfl⟩
        obtain ⟨d1, d2⟩ := div_nat n 4096 q 4096 rfl hq
        obtain ⟨d3, d4⟩ := div_nat n 64 p 64 rfl hp
        obtain ⟨m1, m2⟩ := mod_nat n 64 r 64 rfl hr
        obtain ⟨m3, m4⟩ := mod_nat p 64 s 64 rfl hs
        obtain ⟨b1, e1, f1⟩ := byte_of (n := 224 + q) (by omega)
        obtain ⟨b2, e2, f2⟩ := byte_of (n := 128 + s) (by omega)
        obtain ⟨b3, e3, f3⟩ := byte_of (n := 128 + r) (by omega)
        rw [hq, hp, hs, hr, e1, e2, e3]
        have hcv := fun W => convB W [b1, b2, b3] #[.int .u8 (224 + (q : Int)), .int .u8 (128 + (s : Int)), .int .u8 (128 + (r : Int))] (by simp [f1, f2, f3])
        have v1 : IntKind.i64.wrap (q : Int) = (q : Int) := wrp _ (by omega) (by omega)
        have v1p : IntKind.i64.wrap (p : Int) = (p : Int) := wrp _ (by omega) (by omega)
        have v1s : IntKind.i64.wrap (s : Int) = (s : Int) := wrp _ (by omega) (by omega)
        have v2 : IntKind.i64.wrap (r : Int) = (r : Int) := wrp _ (by omega) (by omega)
        have v3 : IntKind.i64.wrap (224 + (q : Int)) = 224 + (q : Int) := wrp _ (by omega) (by omega)
        have v4 : IntKind.i64.wrap (128 + (s : Int)) = 128 + (s : Int) := wrp _ (by omega) (by omega)
        have v4r : IntKind.i64.wrap (128 + (r : Int)) = 128 + (r : Int) := wrp _ (by omega) (by omega)
        have v5 : IntKind.u8.wrap (224 + (q : Int)) = 224 + (q : Int) := w8 _ (by omega) (by omega)
        have v6 : IntKind.u8.wrap (128 + (s : Int)) = 128 + (s : Int) := w8 _ (by omega) (by omega)
        have v6r : IntKind.u8.wrap (128 + (r : Int)) = 128 + (r : Int) := w8 _ (by omega) (by omega)
        simp only [List.length_cons, List.length_nil] at hcv
        have hb := ba1 w (.cells #[.int .u8 (224 + (q : Int)), .int .u8 (128 + (s : Int)), .int .u8 (128 + (r : Int))] 5)
        clear e1 f1 e2 f2 e3 f3 hq hr hs hp h1 h2 h3
        generalize (n : Int) = z at *
        go_enter Tryz.func116, Tryz.ntmps116
        go_wp2
        go_ret
        exact ⟨rfl, hb⟩
      · rw [if_neg h3]
        have k3 : ¬ (n : Int) < 65536 := by omega
        obtain ⟨q, hq⟩ : ∃ q, n / 262144 = q := ⟨_, rfl⟩
        obtain ⟨o, ho⟩ : ∃ q, n / 4096 = q := ⟨_, rfl⟩
        obtain ⟨u, hu⟩ : ∃ q, o % 64 = q := ⟨_, rfl⟩
        obtain ⟨p, hp⟩ : ∃ q, n / 64 = q := ⟨_, rfl⟩
        obtain ⟨s, hs⟩ : ∃ q, p % 64 = q := ⟨_, rfl⟩
        obtain ⟨r, hr⟩ : ∃ q, n % 64 = q := ⟨_, rfl⟩
        obtain ⟨d1, d2⟩ := div_nat n 262144 q 262144 rfl hq
        obtain ⟨d5, d6⟩ := div_nat n 4096 o 4096 rfl ho
        obtain ⟨d3, d4⟩ := div_nat n 64 p 64 rfl hp
        obtain ⟨m1, m2⟩ := mod_nat n 64 r 64 rfl hr
        obtain ⟨m3, m4⟩ := mod_nat p 64 s 64 rfl hs
        obtain ⟨m5, m6⟩ := mod_nat o 64 u 64 rfl hu
        obtain ⟨b1, e1, f1⟩ := byte_of (n := 240 + q) (by omega)
        obtain ⟨b4, e4, f4⟩ := byte_of (n := 128 + u) (by omega)
        obtain ⟨b2, e2, f2⟩ := byte_of (n := 128 + s) (by omega)
        obtain ⟨b3, e3, f3⟩ := byte_of (n := 128 + r) (by omega)
        rw [hq, ho, hu, hp, hs, hr, e1, e2, e3, e4]
        have hcv := fun W => convB W [b1, b4, b2, b3] #[.int .u8 (240 + (q : Int)), .int .u8 (128 + (u : Int)), .int .u8 (128 + (s : Int)), .int .u8 (128 + (r : Int))] (by simp [f1, f2, f3, f4])
        have v1 : IntKind.i64.wrap (q : Int) = (q : Int) := wrp _ (by omega) (by omega)
        have v1o : IntKind.i64.wrap (o : Int) = (o : Int) := wrp _ (by omega) (by omega)
        have v1u : IntKind.i64.wrap (u : Int) = (u : Int) := wrp _ (by omega) (by omega)
        have v1p : IntKind.i64.wrap (p : Int) = (p : Int) := wrp _ (by omega) (by omega)
        have v1s : IntKind.i64.wrap (s : Int) = (s : Int) := wrp _ (by omega) (by omega)
        have v2 : IntKind.i64.wrap (r : Int) = (r : Int) := wrp _ (by omega) (by omega)
        have v3 : IntKind.i64.wrap (240 + (q : Int)) = 240 + (q : Int) := wrp _ (by omega) (by omega)
        have v4u : IntKind.i64.wrap (128 + (u : Int)) = 128 + (u : Int) := wrp _ (by omega) (by omega)
        have v4 : IntKind.i64.wrap (128 + (s : Int)) = 128 + (s : Int) := wrp _ (by omega) (by omega)
        have v4r : IntKind.i64.wrap (128 + (r : Int)) = 128 + (r : Int) := wrp _ (by omega) (by omega)
        have v5 : IntKind.u8.wrap (240 + (q : Int)) = 240 + (q : Int) := w8 _ (by omega) (by omega)
        have v6u : IntKind.u8.wrap (128 + (u : Int)) = 128 + (u : Int) := w8 _ (by omega) (by omega)
        have v6 : IntKind.u8.wrap (128 + (s : Int)) = 128 + (s : Int) := w8 _ (by omega) (by omega)
        have v6r : IntKind.u8.wrap (128 + (r : Int)) = 128 + (r : Int) := w8 _ (by omega) (by omega)
        simp only [List.length_cons, List.length_nil] at hcv
        have hb := ba1 w (.cells #[.int .u8 (240 + (q : Int)), .int .u8 (128 + (u : Int)), .int .u8 (128 + (s : Int)), .int .u8 (128 + (r : Int))] 5)
        clear e1 f1 e2 f2 e3 f3 e4 f4 hq hr hs hp ho hu h1 h2 h3
        generalize (n : Int) = z at *
        go_enter Tryz.func116, Tryz.ntmps116
        go_wp2
        go_ret
        exact ⟨rfl, hb⟩
end Go.Proofs.YtnkhghjcfhpeiaaGreatDoor

/-
  The document's four and escape, walked.
-/
namespace Go.Proofs.YtnkhghjcfhpeiaaGreatDoor
open Go.RowKit
def IntEnds0 (n : Int) (w : World) (E : Ending) (w' : World) : Prop := E = .returned (.int .i64 n) ∧ w' = w
def fourL (s : Bs) : Int := match hex4 s with | some n => (n : Int) | none => -1
set_option maxRecDepth 100000 in
set_option maxHeartbeats 2000000 in
theorem rfour_any (s : Bs) (hs : s.length ≤ 1000000) (w : World) : Calls Tryz.prog 115 #[.string (tb s)] w (IntEnds0 (fourL s) w) := by
  have zs : (tb s).size = s.length := tb_size s
  by_cases h4 : s.length < 4
  · have hn : fourL s = -1 := by
      unfold fourL
      cases h : hex4 s with
      | none => rfl
      | some n => have := (hex4_lt h).2; omega
    have k1 : (s.length : Int) < 4 := by omega
    rw [hn]
    go_enter Tryz.func115, Tryz.ntmps115
    go_wp2
    go_ret
    exact ⟨rfl, rfl⟩
  · have k1 : ¬ (s.length : Int) < 4 := by omega
    have k2 : (4 : Int) ≤ (s.length : Int) := by omega
    have hx : (tb s).extract 0 4 = tb (s.take 4) := by rw [tb_ext, List.drop_zero]
    have hP := Lib.hid (Nm.rparse_any (tb (s.take 4)) 16 w (by rw [tb_size, List.length_take]; unfold maxLen; omega))
    rw [show (tb (s.take 4)).data.toList = s.take 4 from dl_tb _, parse4 (by omega)] at hP
    unfold fourL
    cases hh : hex4 s with
    | none =>
      rw [hh] at hP
      simp only at hP ⊢
      go_enter Tryz.func115, Tryz.ntmps115
      go_wp2_with fail
      refine hP.out.mono ?_
      rintro E w1 ⟨rfl, rfl⟩
      go_wp2
      go_ret
      exact ⟨rfl, rfl⟩
    | some n =>
      rw [hh] at hP
      simp only at hP ⊢
      clear hh
      generalize (n : Int) = z at *
      go_enter Tryz.func115, Tryz.ntmps115
      go_wp2_with fail
      refine hP.out.mono ?_
      rintro E w1 ⟨rfl, rfl⟩
      go_wp2
      go_ret
      exact ⟨rfl, rfl⟩
theorem tl_is (a : Bs) : (tb a).toList = a := by rw [Go.ByteArray.toList_eq]; rfl
theorem tl_neqb {a b : Bs} (h : a ≠ b) : ((tb a).toList == b) = false := beq_eq_false_iff_ne.2 fun e => h (by rwa [tl_is] at e)
def lsE : Bs := [34, 92, 47, 98, 102, 110, 114, 116]
def lsO : Bs := [34, 92, 47, 8, 12, 10, 13, 9]
theorem esc_tab : ∀ i : Fin 8, lsE[i.1]? = some (lsE.getD i.1 0) ∧ lsO[i.1]? = some (lsO.getD i.1 0) ∧ escC (lsE.getD i.1 0) = some (lsO.getD i.1 0) := by decide +kernel
theorem esc_at {i : Nat} (h : i < 8) : ∃ c d, lsE[i]? = some c ∧ lsO[i]? = some d ∧ escC c = some d := ⟨_, _, esc_tab ⟨i, h⟩⟩
theorem esc_none {e : UInt8} (h : ∀ i < 8, lsE[i]? ≠ some e) : escC e = none := by
  have g : ∀ x ∈ lsE, e ≠ x := fun x hx he => by
    obtain ⟨i, hi, hix⟩ := List.mem_iff_getElem.1 hx
    exact h i hi (by rw [List.getElem?_eq_getElem hi, hix, he])
  unfold escC
  rw [if_neg (g 34 (by decide)), if_neg (g 92 (by decide)), if_neg (g 47 (by decide)), if_neg (g 98 (by decide)), if_neg (g 102 (by decide)), if_neg (g 110 (by decide)), if_neg (g 114 (by decide)), if_neg (g 116 (by decide))]
def EscEnds (q : Bs × Nat) (w : World) (E : Ending) (w' : World) : Prop := E = .returned (.tuple #[.string (tb q.1), .int .i64 (q.2 : Int)]) ∧ Below w.heap.size w w'
theorem nat_ne {a b : UInt8} (h : a ≠ b) : ¬ (a.toNat : Int) = (b.toNat : Int) := fun e => h (UInt8.toNat_inj.1 (by omega))
set_option maxRecDepth 100000 in
set_option maxHeartbeats 8000000 in
theorem rescape_any (s : Bs) (hs : s.length ≤ 1000000) (w : World) : Calls Tryz.prog 99 #[.string (tb s)] w (EscEnds (escL s) w) := by
  match s, hs with
  | [], _ =>
    have hem := tb_em
    go_enter Tryz.func99, Tryz.ntmps99
    go_wp2
    go_ret2
    exact ⟨rfl, Below.refl _ _⟩
  | e :: r, hs =>
    have hem := tb_ne (l := e :: r) (by simp)
    have hi0 : ∀ W, (Instr.index 9 (.string (tb (e :: r))) (.int .i64 0)).run Tryz.prog W = .ok (.int .u8 (e.toNat : Int)) W := fun W => bidx (l := e :: r) (i := 0) rfl W
    have zs : (tb (e :: r)).size = r.length + 1 := by rw [tb_size]; rfl
    obtain ⟨Q, hQ⟩ : ∃ Q, escL (e :: r) = Q := ⟨_, rfl⟩
    rw [hQ]
    have HQ := Lib.hid hQ
    have hx1 : (tb (e :: r)).extract 1 (r.length + 1) = tb r := by
      rw [show r.length + 1 = (e :: r).length from rfl, tb_drop]; rfl
    have hx5 : (tb (e :: r)).extract 5 7 = tb ((r.drop 4).take 2) := by
      rw [tb_ext, List.drop_take]; rfl
    have hx7 : (tb (e :: r)).extract 7 (r.length + 1) = tb (r.drop 6) := by
      rw [show r.length + 1 = (e :: r).length from rfl, tb_drop]; rfl
    have hr : r.length ≤ 1000000 := by simp only [List.length_cons] at hs; omega
    have h61 := Lib.hid (rfour_any r hr)
    have h62 := Lib.hid (rfour_any (r.drop 6) (by rw [List.length_drop]; omega))
    obtain ⟨S, hS⟩ : ∃ S, e :: r = S := ⟨_, rfl⟩
    rw [hS] at hem hi0 zs hx1 hx5 hx7 ⊢
    clear hQ hs hS
    go_enter Tryz.func99, Tryz.ntmps99
    go_wp2_with fail
    go_loopw [4, 13, 14, 15, 16, 17] (fun i _ _ _ _ _ wr => ∃ j : Nat, j ≤ 8 ∧ i = .int .i64 (j : Int) ∧ Hid (∀ k < j, lsE[k]? ≠ some e) ∧ Hid (Below w.heap.size w wr)) (fun i _ _ _ _ _ _ => 8 - (intOf i).toNat)
    case atStart => exact ⟨0, by omega, rfl, Lib.hid (fun k hk => absurd hk (by omega)), Lib.hid (Below.refl _ _)⟩
    case round =>
      obtain ⟨j, hj, rfl, HJ, HB⟩ := hrel
      by_cases hlt : j < 8
      case pos =>
        have hji : (j : Int) < 8 := by omega
        obtain ⟨c, d, hc, hd, hcd⟩ := esc_at hlt
        have hij : ∀ W, (Instr.index 9 (.string ⟨#[34, 92, 47, 98, 102, 110, 114, 116]⟩) (.int .i64 (j : Int))).run Tryz.prog W = .ok (.int .u8 (c.toNat : Int)) W := fun W => bidx (l := lsE) hc W
        by_cases hec : e = c
        case pos =>
          subst hec
          have hq : Q = ([d], 1) := by rw [← HQ.out, escL, hcd]
          subst hq
          have hxo : (⟨#[34, 92, 47, 8, 12, 10, 13, 9]⟩ : ByteArray).extract j (j + 1) = tb [d] := by
            show (tb lsO).extract j (j + 1) = tb [d]
            rw [tb_ext]
            obtain ⟨q1, q2⟩ := List.getElem?_eq_some_iff.1 hd
            rw [List.take_add_one, hd, List.drop_append_of_le_length (by rw [List.length_take]; omega), List.drop_of_length_le (by rw [List.length_take]; omega)]
            rfl
          have hw1 : IntKind.i64.wrap ((j : Int) + 1) = ((j + 1 : Nat) : Int) := by rw [wrp _ (by omega) (by omega)]; omega
          have hl1 : ((j + 1 : Nat) : Int) ≤ 8 := by omega
          have hl2 : (j : Int) ≤ ((j + 1 : Nat) : Int) := by omega
          clear hc hd hcd HJ HQ
          generalize (e.toNat : Int) = z at *
          go_wp2_with fail
          go_quiet (fail)
          rename_i nq
          have HB1 := below_drewN HB.out nq
          generalize wr.drewN nq = W at *
          go_wp2
          go_ret2
          exact ⟨rfl, HB1⟩
        case neg =>
          have hez := nat_ne hec
          have HJ1 : Hid (∀ k < j + 1, lsE[k]? ≠ some e) := Lib.hid (fun k hk => by
            by_cases hkj : k < j
            · exact HJ.out k hkj
            · rw [show k = j by omega, hc]
              exact fun h => hec (Option.some.inj h).symm)
          clear hc hd hcd HJ HQ
          generalize (e.toNat : Int) = z at *
          generalize (c.toNat : Int) = y at *
          go_wp2_with fail
          go_quiet (fail)
          rename_i nq
          have HB1 := Lib.hid (below_drewN HB.out nq)
          generalize wr.drewN nq = W at *
          go_wp2
          go_roundw
          case rel => exact ⟨j + 1, by omega, by go_num, HJ1, HB1⟩
          case measure => simp [intOf]; omega
      case neg =>
        have hji : ¬ (j : Int) < 8 := by omega
        have hn := esc_none (fun i hi => HJ.out i (by omega))
        have HQ1 : Hid (Q = if e = 117 then (match hex4 r with
          | none => ([], 0)
          | some n => if 56320 ≤ n ∧ n ≤ 57343 then ([], 0) else if n < 55296 ∨ 56319 < n then (encU n, 5)
            else if (r.drop 4).take 2 = [92, 117] then (match hex4 (r.drop 6) with
              | none => ([], 0)
              | some m => if 56320 ≤ m ∧ m ≤ 57343 then (encU (65536 + (n - 55296) * 1024 + (m - 56320)), 11) else ([], 0)) else ([], 0)) else ([], 0)) := Lib.hid (by rw [← HQ.out, escL, hn]; rfl)
        clear HQ HJ hn
        by_cases h117 : e = 117
        case neg =>
          have hq : Q = ([], 0) := by rw [HQ1.out, if_neg h117]
          subst hq
          have hez := nat_ne h117
          rw [show ((117 : UInt8).toNat : Int) = 117 from rfl] at hez
          clear h117 HQ1
          generalize (e.toNat : Int) = z at *
          go_wp2
          go_ret2
          exact ⟨rfl, HB.out⟩
        case pos =>
          subst h117
          rw [show ((117 : UInt8).toNat : Int) = 117 from rfl] at hi0
          have HQ2 := Lib.hid (HQ1.out.trans (if_pos rfl))
          have hF := Lib.hid (h61.out wr)
          unfold fourL at hF
          clear HQ1
          cases h4 : hex4 r with
          | none =>
            rw [h4] at hF HQ2
            have hq : Q = ([], 0) := HQ2.out
            subst hq
            simp only at hF
            clear h4 HQ2
            go_wp2_with fail
            refine hF.out.mono ?_
            rintro E w1 ⟨rfl, rfl⟩
            go_wp2
            go_ret2
            exact ⟨rfl, HB.out⟩
          | some n =>
            rw [h4] at hF HQ2
            simp only at hF HQ2
            have hn4 := hex4_lt h4
            obtain ⟨hn4, hr4⟩ := hn4
            have k0 : ¬ (n : Int) < 0 := by omega
            clear h4
            by_cases c1 : 56320 ≤ n ∧ n ≤ 57343
            · have hq : Q = ([], 0) := by rw [HQ2.out, if_pos c1]
              subst hq
              have k1 : 56320 ≤ (n : Int) := by omega
              have k2 : (n : Int) ≤ 57343 := by omega
              clear c1 HQ2 hn4
              generalize (n : Int) = z at *
              go_wp2_with fail
              refine hF.out.mono ?_
              rintro E w1 ⟨rfl, rfl⟩
              replace k0 : ¬ z < 0 := by omega
              have d0 : decide (z < 0) = false := decide_eq_false (by omega)
              replace k1 : 56320 ≤ z := by omega
              have d1 : decide (56320 ≤ z) = true := decide_eq_true (by omega)
              replace k2 : z ≤ 57343 := by omega
              have d2 : decide (z ≤ 57343) = true := decide_eq_true (by omega)
              go_wp2
              go_ret2
              exact ⟨rfl, HB.out⟩
            · rw [if_neg c1] at HQ2
              have hnot : Hid (n < 56320 ∨ (56320 ≤ n ∧ 57343 < n)) := Lib.hid (by omega)
              clear c1
              by_cases c2 : n < 55296 ∨ 56319 < n
              · have hq : Q = (encU n, 5) := by rw [HQ2.out, if_pos c2]
                subst hq
                have hU := Lib.hid (rutf8_any n (by omega) wr)
                have hc2 : (n < 55296) ∨ (55296 ≤ n ∧ 56320 ≤ n ∧ 57343 < n) := by
                  have := hnot.out
                  omega
                clear c2 HQ2 hnot
                rcases hc2 with c2 | ⟨c2, c3, c4⟩
                · have k1 : (n : Int) < 55296 := by omega
                  have k2 : ¬ 56320 ≤ (n : Int) := by omega
                  clear c2 hn4
                  obtain ⟨t, ht⟩ : ∃ t, encU n = t := ⟨_, rfl⟩
                  rw [ht] at hU
                  replace ht := Lib.hid ht
                  generalize (n : Int) = z at *
                  go_wp2_with fail
                  refine hF.out.mono ?_
                  rintro E w1 ⟨rfl, rfl⟩
                  replace k0 : ¬ z < 0 := by omega
                  have d0 : decide (z < 0) = false := decide_eq_false (by omega)
                  replace k1 : z < 55296 := by omega
                  have d1 : decide (z < 55296) = true := decide_eq_true (by omega)
                  replace k2 : ¬ 56320 ≤ z := by omega
                  have d2 : decide (56320 ≤ z) = false := decide_eq_false (by omega)
                  go_wp2_with fail
                  refine hU.out.mono ?_
                  rintro E w2 ⟨rfl, hb⟩
                  have HB2 := bon HB.out hb
                  go_wp2
                  go_ret2
                  exact ⟨by rw [ht.out]; rfl, HB2⟩
                · have k1 : ¬ (n : Int) < 55296 := by omega
                  have k2 : 56320 ≤ (n : Int) := by omega
                  have k3 : ¬ (n : Int) ≤ 57343 := by omega
                  have k4 : 56319 < (n : Int) := by omega
                  clear c2 c3 c4 hn4
                  obtain ⟨t, ht⟩ : ∃ t, encU n = t := ⟨_, rfl⟩
                  rw [ht] at hU
                  replace ht := Lib.hid ht
                  generalize (n : Int) = z at *
                  go_wp2_with fail
                  refine hF.out.mono ?_
                  rintro E w1 ⟨rfl, rfl⟩
                  replace k0 : ¬ z < 0 := by omega
                  have d0 : decide (z < 0) = false := decide_eq_false (by omega)
                  replace k1 : ¬ z < 55296 := by omega
                  have d1 : decide (z < 55296) = false := decide_eq_false (by omega)
                  replace k2 : 56320 ≤ z := by omega
                  have d2 : decide (56320 ≤ z) = true := decide_eq_true (by omega)
                  replace k3 : ¬ z ≤ 57343 := by omega
                  have d3 : decide (z ≤ 57343) = false := decide_eq_false (by omega)
                  replace k4 : 56319 < z := by omega
                  have d4 : decide (56319 < z) = true := decide_eq_true (by omega)
                  go_wp2_with fail
                  refine hU.out.mono ?_
                  rintro E w2 ⟨rfl, hb⟩
                  have HB2 := bon HB.out hb
                  go_wp2
                  go_ret2
                  exact ⟨by rw [ht.out]; rfl, HB2⟩
              · rw [if_neg c2] at HQ2
                have k1 : ¬ (n : Int) < 55296 := by omega
                have k2 : ¬ 56320 ≤ (n : Int) := by omega
                have k4 : ¬ 56319 < (n : Int) := by omega
                have hn5 : 55296 ≤ n ∧ n < 56320 := by omega
                obtain ⟨n1, n2⟩ := hn5
                clear hnot c2 hn4 k0
                have k0 : ¬ (n : Int) < 0 := by omega
                by_cases c3 : r.length < 10
                · have hq : Q = ([], 0) := by
                    rw [HQ2.out]
                    split
                    · cases h6 : hex4 (r.drop 6) with
                      | none => rfl
                      | some m =>
                        have := (hex4_lt h6).2
                        rw [List.length_drop] at this
                        omega
                    · rfl
                  subst hq
                  have k5 : (r.length : Int) + 1 < 11 := by omega
                  clear HQ2 n1 n2
                  generalize (n : Int) = z at *
                  go_wp2_with fail
                  refine hF.out.mono ?_
                  rintro E w1 ⟨rfl, rfl⟩
                  replace k0 : ¬ z < 0 := by omega
                  have d0 : decide (z < 0) = false := decide_eq_false (by omega)
                  replace k1 : ¬ z < 55296 := by omega
                  have d1 : decide (z < 55296) = false := decide_eq_false (by omega)
                  replace k2 : ¬ 56320 ≤ z := by omega
                  have d2 : decide (56320 ≤ z) = false := decide_eq_false (by omega)
                  replace k4 : ¬ 56319 < z := by omega
                  have d4 : decide (56319 < z) = false := decide_eq_false (by omega)
                  replace k5 : (r.length : Int) + 1 < 11 := by omega
                  have d5 : decide ((r.length : Int) + 1 < 11) = true := decide_eq_true (by omega)
                  go_wp2
                  go_ret2
                  exact ⟨rfl, HB.out⟩
                · have k5 : ¬ (r.length : Int) + 1 < 11 := by omega
                  have k7 : (7 : Int) ≤ (r.length : Int) + 1 := by omega
                  by_cases c4 : (r.drop 4).take 2 = [92, 117]
                  case neg =>
                    have hq : Q = ([], 0) := by rw [HQ2.out, if_neg c4]
                    subst hq
                    have hne : ((tb ((r.drop 4).take 2)).toList == [92, 117]) = false := tl_neqb c4
                    clear HQ2 n1 n2 c3 c4
                    generalize (n : Int) = z at *
                    go_wp2_with fail
                    refine hF.out.mono ?_
                    rintro E w1 ⟨rfl, rfl⟩
                    replace k0 : ¬ z < 0 := by omega
                    have d0 : decide (z < 0) = false := decide_eq_false (by omega)
                    replace k1 : ¬ z < 55296 := by omega
                    have d1 : decide (z < 55296) = false := decide_eq_false (by omega)
                    replace k2 : ¬ 56320 ≤ z := by omega
                    have d2 : decide (56320 ≤ z) = false := decide_eq_false (by omega)
                    replace k4 : ¬ 56319 < z := by omega
                    have d4 : decide (56319 < z) = false := decide_eq_false (by omega)
                    replace k5 : ¬ (r.length : Int) + 1 < 11 := by omega
                    have d5 : decide ((r.length : Int) + 1 < 11) = false := decide_eq_false (by omega)
                    replace k7 : (7 : Int) ≤ (r.length : Int) + 1 := by omega
                    have d7 : decide ((7 : Int) ≤ (r.length : Int) + 1) = true := decide_eq_true (by omega)
                    go_wp2
                    go_ret2
                    exact ⟨rfl, HB.out⟩
                  case pos =>
                    rw [if_pos c4] at HQ2
                    rw [c4] at hx5
                    have hee := tl_is [92, 117]
                    have hG := Lib.hid (h62.out wr)
                    unfold fourL at hG
                    clear c4
                    cases h6 : hex4 (r.drop 6) with
                    | none =>
                      rw [h6] at hG HQ2
                      have hq : Q = ([], 0) := HQ2.out
                      subst hq
                      simp only at hG
                      clear h6 HQ2 n1 n2 c3
                      generalize (n : Int) = z at *
                      go_wp2_with fail
                      refine hF.out.mono ?_
                      rintro E w1 ⟨rfl, rfl⟩
                      replace k0 : ¬ z < 0 := by omega
                      have d0 : decide (z < 0) = false := decide_eq_false (by omega)
                      replace k1 : ¬ z < 55296 := by omega
                      have d1 : decide (z < 55296) = false := decide_eq_false (by omega)
                      replace k2 : ¬ 56320 ≤ z := by omega
                      have d2 : decide (56320 ≤ z) = false := decide_eq_false (by omega)
                      replace k4 : ¬ 56319 < z := by omega
                      have d4 : decide (56319 < z) = false := decide_eq_false (by omega)
                      replace k5 : ¬ (r.length : Int) + 1 < 11 := by omega
                      have d5 : decide ((r.length : Int) + 1 < 11) = false := decide_eq_false (by omega)
                      replace k7 : (7 : Int) ≤ (r.length : Int) + 1 := by omega
                      have d7 : decide ((7 : Int) ≤ (r.length : Int) + 1) = true := decide_eq_true (by omega)
                      go_wp2_with fail
                      refine hG.out.mono ?_
                      rintro E w1 ⟨rfl, rfl⟩
                      replace k0 : ¬ z < 0 := by omega
                      have d0 : decide (z < 0) = false := decide_eq_false (by omega)
                      replace k1 : ¬ z < 55296 := by omega
                      have d1 : decide (z < 55296) = false := decide_eq_false (by omega)
                      replace k2 : ¬ 56320 ≤ z := by omega
                      have d2 : decide (56320 ≤ z) = false := decide_eq_false (by omega)
                      replace k4 : ¬ 56319 < z := by omega
                      have d4 : decide (56319 < z) = false := decide_eq_false (by omega)
                      replace k5 : ¬ (r.length : Int) + 1 < 11 := by omega
                      have d5 : decide ((r.length : Int) + 1 < 11) = false := decide_eq_false (by omega)
                      replace k7 : (7 : Int) ≤ (r.length : Int) + 1 := by omega
                      have d7 : decide ((7 : Int) ≤ (r.length : Int) + 1) = true := decide_eq_true (by omega)
                      go_wp2
                      go_ret2
                      exact ⟨rfl, HB.out⟩
                    | some m =>
                      rw [h6] at hG HQ2
                      simp only at hG HQ2
                      have hm4 := (hex4_lt h6).1
                      clear h6
                      by_cases c5 : 56320 ≤ m ∧ m ≤ 57343
                      · have hq : Q = (encU (65536 + (n - 55296) * 1024 + (m - 56320)), 11) := by rw [HQ2.out, if_pos c5]
                        subst hq
                        obtain ⟨p, hp⟩ : ∃ p, 65536 + (n - 55296) * 1024 + (m - 56320) = p := ⟨_, rfl⟩
                        have hU := Lib.hid (rutf8_any p (by omega) wr)
                        have k8 : ¬ (m : Int) < 56320 := by omega
                        have k9 : ¬ 57343 < (m : Int) := by omega
                        have v1 : IntKind.i64.wrap ((n : Int) - 55296) = (n : Int) - 55296 := wrp _ (by omega) (by omega)
                        have v2 : IntKind.i64.wrap (((n : Int) - 55296) * 1024) = ((n : Int) - 55296) * 1024 := wrp _ (by omega) (by omega)
                        have v3 : IntKind.i64.wrap (65536 + ((n : Int) - 55296) * 1024) = 65536 + ((n : Int) - 55296) * 1024 := wrp _ (by omega) (by omega)
                        have v4 : IntKind.i64.wrap (65536 + ((n : Int) - 55296) * 1024 + (m : Int)) = 65536 + ((n : Int) - 55296) * 1024 + (m : Int) := wrp _ (by omega) (by omega)
                        have v5 : IntKind.i64.wrap (65536 + ((n : Int) - 55296) * 1024 + (m : Int) - 56320) = (p : Int) := by rw [wrp _ (by omega) (by omega)]; omega
                        obtain ⟨t, ht⟩ : ∃ t, encU p = t := ⟨_, rfl⟩
                        rw [ht] at hU
                        rw [← hp] at ht
                        replace ht := Lib.hid ht
                        clear hp c5 HQ2 n1 n2 c3 hm4
                        generalize (n : Int) = z at *
                        generalize (m : Int) = y at *
                        generalize (p : Int) = x at *
                        go_wp2_with fail
                        refine hF.out.mono ?_
                        rintro E w1 ⟨rfl, rfl⟩
                        replace k0 : ¬ z < 0 := by omega
                        have d0 : decide (z < 0) = false := decide_eq_false (by omega)
                        replace k1 : ¬ z < 55296 := by omega
                        have d1 : decide (z < 55296) = false := decide_eq_false (by omega)
                        replace k2 : ¬ 56320 ≤ z := by omega
                        have d2 : decide (56320 ≤ z) = false := decide_eq_false (by omega)
                        replace k4 : ¬ 56319 < z := by omega
                        have d4 : decide (56319 < z) = false := decide_eq_false (by omega)
                        replace k5 : ¬ (r.length : Int) + 1 < 11 := by omega
                        have d5 : decide ((r.length : Int) + 1 < 11) = false := decide_eq_false (by omega)
                        replace k7 : (7 : Int) ≤ (r.length : Int) + 1 := by omega
                        have d7 : decide ((7 : Int) ≤ (r.length : Int) + 1) = true := decide_eq_true (by omega)
                        replace k8 : ¬ y < 56320 := by omega
                        have d8 : decide (y < 56320) = false := decide_eq_false (by omega)
                        replace k9 : ¬ 57343 < y := by omega
                        have d9 : decide (57343 < y) = false := decide_eq_false (by omega)
                        go_wp2_with fail
                        refine hG.out.mono ?_
                        rintro E w1 ⟨rfl, rfl⟩
                        replace k0 : ¬ z < 0 := by omega
                        have d0 : decide (z < 0) = false := decide_eq_false (by omega)
                        replace k1 : ¬ z < 55296 := by omega
                        have d1 : decide (z < 55296) = false := decide_eq_false (by omega)
                        replace k2 : ¬ 56320 ≤ z := by omega
                        have d2 : decide (56320 ≤ z) = false := decide_eq_false (by omega)
                        replace k4 : ¬ 56319 < z := by omega
                        have d4 : decide (56319 < z) = false := decide_eq_false (by omega)
                        replace k5 : ¬ (r.length : Int) + 1 < 11 := by omega
                        have d5 : decide ((r.length : Int) + 1 < 11) = false := decide_eq_false (by omega)
                        replace k7 : (7 : Int) ≤ (r.length : Int) + 1 := by omega
                        have d7 : decide ((7 : Int) ≤ (r.length : Int) + 1) = true := decide_eq_true (by omega)
                        replace k8 : ¬ y < 56320 := by omega
                        have d8 : decide (y < 56320) = false := decide_eq_false (by omega)
                        replace k9 : ¬ 57343 < y := by omega
                        have d9 : decide (57343 < y) = false := decide_eq_false (by omega)
                        go_wp2_with fail
                        refine hU.out.mono ?_
                        rintro E w2 ⟨rfl, hb⟩
                        have HB2 := bon HB.out hb
                        go_wp2
                        go_ret2
                        exact ⟨by rw [ht.out]; rfl, HB2⟩
                      · have hq : Q = ([], 0) := by rw [HQ2.out, if_neg c5]
                        subst hq
                        have hc5 : m < 56320 ∨ (56320 ≤ m ∧ 57343 < m) := by omega
                        clear c5 HQ2 n1 n2 c3
                        rcases hc5 with c5 | ⟨c5, c6⟩
                        · have k8 : (m : Int) < 56320 := by omega
                          clear c5 hm4
                          generalize (n : Int) = z at *
                          generalize (m : Int) = y at *
                          go_wp2_with fail
                          refine hF.out.mono ?_
                          rintro E w1 ⟨rfl, rfl⟩
                          replace k0 : ¬ z < 0 := by omega
                          have d0 : decide (z < 0) = false := decide_eq_false (by omega)
                          replace k1 : ¬ z < 55296 := by omega
                          have d1 : decide (z < 55296) = false := decide_eq_false (by omega)
                          replace k2 : ¬ 56320 ≤ z := by omega
                          have d2 : decide (56320 ≤ z) = false := decide_eq_false (by omega)
                          replace k4 : ¬ 56319 < z := by omega
                          have d4 : decide (56319 < z) = false := decide_eq_false (by omega)
                          replace k5 : ¬ (r.length : Int) + 1 < 11 := by omega
                          have d5 : decide ((r.length : Int) + 1 < 11) = false := decide_eq_false (by omega)
                          replace k7 : (7 : Int) ≤ (r.length : Int) + 1 := by omega
                          have d7 : decide ((7 : Int) ≤ (r.length : Int) + 1) = true := decide_eq_true (by omega)
                          replace k8 : y < 56320 := by omega
                          have d8 : decide (y < 56320) = true := decide_eq_true (by omega)
                          go_wp2_with fail
                          refine hG.out.mono ?_
                          rintro E w1 ⟨rfl, rfl⟩
                          replace k0 : ¬ z < 0 := by omega
                          have d0 : decide (z < 0) = false := decide_eq_false (by omega)
                          replace k1 : ¬ z < 55296 := by omega
                          have d1 : decide (z < 55296) = false := decide_eq_false (by omega)
                          replace k2 : ¬ 56320 ≤ z := by omega
                          have d2 : decide (56320 ≤ z) = false := decide_eq_false (by omega)
                          replace k4 : ¬ 56319 < z := by omega
                          have d4 : decide (56319 < z) = false := decide_eq_false (by omega)
                          replace k5 : ¬ (r.length : Int) + 1 < 11 := by omega
                          have d5 : decide ((r.length : Int) + 1 < 11) = false := decide_eq_false (by omega)
                          replace k7 : (7 : Int) ≤ (r.length : Int) + 1 := by omega
                          have d7 : decide ((7 : Int) ≤ (r.length : Int) + 1) = true := decide_eq_true (by omega)
                          replace k8 : y < 56320 := by omega
                          have d8 : decide (y < 56320) = true := decide_eq_true (by omega)
                          go_wp2
                          go_ret2
                          exact ⟨rfl, HB.out⟩
                        · have k8 : ¬ (m : Int) < 56320 := by omega
                          have k9 : 57343 < (m : Int) := by omega
                          clear c5 c6 hm4
                          generalize (n : Int) = z at *
                          generalize (m : Int) = y at *
                          go_wp2_with fail
                          refine hF.out.mono ?_
                          rintro E w1 ⟨rfl, rfl⟩
                          replace k0 : ¬ z < 0 := by omega
                          have d0 : decide (z < 0) = false := decide_eq_false (by omega)
                          replace k1 : ¬ z < 55296 := by omega
                          have d1 : decide (z < 55296) = false := decide_eq_false (by omega)
                          replace k2 : ¬ 56320 ≤ z := by omega
                          have d2 : decide (56320 ≤ z) = false := decide_eq_false (by omega)
                          replace k4 : ¬ 56319 < z := by omega
                          have d4 : decide (56319 < z) = false := decide_eq_false (by omega)
                          replace k5 : ¬ (r.length : Int) + 1 < 11 := by omega
                          have d5 : decide ((r.length : Int) + 1 < 11) = false := decide_eq_false (by omega)
                          replace k7 : (7 : Int) ≤ (r.length : Int) + 1 := by omega
                          have d7 : decide ((7 : Int) ≤ (r.length : Int) + 1) = true := decide_eq_true (by omega)
                          replace k8 : ¬ y < 56320 := by omega
                          have d8 : decide (y < 56320) = false := decide_eq_false (by omega)
                          replace k9 : 57343 < y := by omega
                          have d9 : decide (57343 < y) = true := decide_eq_true (by omega)
                          go_wp2_with fail
                          refine hG.out.mono ?_
                          rintro E w1 ⟨rfl, rfl⟩
                          replace k0 : ¬ z < 0 := by omega
                          have d0 : decide (z < 0) = false := decide_eq_false (by omega)
                          replace k1 : ¬ z < 55296 := by omega
                          have d1 : decide (z < 55296) = false := decide_eq_false (by omega)
                          replace k2 : ¬ 56320 ≤ z := by omega
                          have d2 : decide (56320 ≤ z) = false := decide_eq_false (by omega)
                          replace k4 : ¬ 56319 < z := by omega
                          have d4 : decide (56319 < z) = false := decide_eq_false (by omega)
                          replace k5 : ¬ (r.length : Int) + 1 < 11 := by omega
                          have d5 : decide ((r.length : Int) + 1 < 11) = false := decide_eq_false (by omega)
                          replace k7 : (7 : Int) ≤ (r.length : Int) + 1 := by omega
                          have d7 : decide ((7 : Int) ≤ (r.length : Int) + 1) = true := decide_eq_true (by omega)
                          replace k8 : ¬ y < 56320 := by omega
                          have d8 : decide (y < 56320) = false := decide_eq_false (by omega)
                          replace k9 : 57343 < y := by omega
                          have d9 : decide (57343 < y) = true := decide_eq_true (by omega)
                          go_wp2
                          go_ret2
                          exact ⟨rfl, HB.out⟩
end Go.Proofs.YtnkhghjcfhpeiaaGreatDoor
