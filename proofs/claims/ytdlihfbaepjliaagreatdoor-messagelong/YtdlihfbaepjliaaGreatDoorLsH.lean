/-
  The walk of the law MessageLong.
-/
import Derived.Test.YtdlihfbaepjliaaGreatDoorLsD
namespace Go.Proofs.YtdlihfbaepjliaaGreatDoor
open Go.RowKit
attribute [local go_sem ↓] exec_ldR exec_ldH exec_ldK exec_ldM exec_stR exec_stH exec_stK exec_stM exec_bdM exec_bsM
attribute [local go_sem] run_bdM run_bsM run_ldR run_ldH run_ldK run_ldM run_stR run_stH run_stK run_stM ldO_at stO_at rcs_size hcs_size kcs_size mca_size rcs_one hcs_one kcs_one mca_one rcs_oneN hcs_oneN kcs_oneN mca_oneN rcs_now rcs_ck mca_head hpat_drew hpat_new
attribute [local go_sem ↓] exec_stP exec_bdP
attribute [local go_sem] run_stP run_bdP pcs_size pcs_one pcs_oneN pcs_rd pcs_now pcs_ck pspl_now pspl_ck pspl_rd
attribute [local go_sem] zM_one zM_size
/-- a reader is built of who answers and what was asked -/
def bdN (x y : Value) : Sem Next := do pure (.value (← Instr.build 32 #[(0, x), (1, y)]))
theorem exec_bdN (ρ : Operand → Value) (dst : Option Tmp) (x y : Operand) (ty : TypeId) (pos : String) (after : Array Edge) (guard : Option (Nat × Bool)) :
    execOp ρ { dst, op := .build 32 #[(0, x), (1, y)], type := ty, pos, after, guard } = bdN (ρ x) (ρ y) := by simp [execOp, bdN]
theorem run_bdN (a : Bool) (w : World) : (bdN (.bool a) (.string ⟨#[71, 69, 84]⟩)).run Tryz.prog w = .ok (.value (.agg (rcs (newR a [71, 69, 84]) ⟨none, 0, 0⟩))) w := by
  have h : (Instr.build 32 #[(0, .bool a), (1, .string ⟨#[71, 69, 84]⟩)]).run Tryz.prog w = .ok (.agg (rcs (newR a [71, 69, 84]) ⟨none, 0, 0⟩)) w := by kernel_rfl
  simp only [bdN, Sem.run_bind, h, Result.andThen_ok, Sem.run_pure]
attribute [local go_sem ↓] exec_bdN
attribute [local go_sem] run_bdN
def CutL (w : World) (p : Value) (W : World) : Prop := ∃ (a : Bool) (g : Nat), p = .pointer (some ⟨g, 0, none⟩) ∧ w.heap.size ≤ g ∧ Box W g 32 (rcs (newR a [71, 69, 84]) ⟨none, 0, 0⟩) ∧ Below w.heap.size w W
set_option maxRecDepth 100000 in
set_option maxHeartbeats 8000000 in
theorem messageLong_any (n h : Nat) (w : World) (hn : n < 256) (hh : h < 256) (hT : Tabs w) : Calls Tryz.prog 6 #[.int .u8 (n : Int), .int .u8 (h : Int)] w (BoolEnds true w) := by
  have HTb := Lib.hid hT
  have HSame := Lib.hid (fun (R : Rr) (S : Sli) (T : ByteArray) (hs : T.size ≤ 5000) W (hF : Fs W S (mkF R.now.fs)) (hk : SmR R) (hM : Mx W) => by
    have := same9_c R S (dl T) W hF hk (by rw [dl_len]; omega) hM
    rw [tb_dl] at this
    exact this)
  clear hT
  go_enter Tryz.func6, Tryz.ntmps6
  go_upto_region 1 with fail
  go_cut [5] (CutL w)
  case first =>
    have h2 : h % 2 = 0 ∨ h % 2 = 1 := by omega
    rcases h2 with h2 | h2
    · have t0 : (h : Int).tmod 2 = 0 := by rw [Int.tmod_eq_emod_of_nonneg (by omega)]; omega
      have t1 : (h : Int) % 2 = 0 := by omega
      clear h2
      go_wp2
      go_meet
      exact ⟨false, w.heap.size, rfl, Nat.le_refl _, box_row _ (Box.new w 32 #[.bool false, .string ⟨#[]⟩, .string ⟨#[]⟩, .int .i64 0, .int .i64 0, .string ⟨#[]⟩, .int .i64 0, .int .i64 0, .string ⟨#[]⟩, .int .i64 0, .string ⟨#[]⟩, .string ⟨#[]⟩, .int .i64 0, .string ⟨#[]⟩, .int .i64 0, .slice none 0 0, .int .i64 0]), below_row (ba1 w _) (Nat.le_refl _) _⟩
    · have t0 : (h : Int).tmod 2 = 1 := by rw [Int.tmod_eq_emod_of_nonneg (by omega)]; omega
      have t1 : (h : Int) % 2 = 1 := by omega
      clear h2
      go_wp2
      go_meet
      exact ⟨true, w.heap.size, rfl, Nat.le_refl _, box_row _ (Box.new w 32 #[.bool false, .string ⟨#[]⟩, .string ⟨#[]⟩, .int .i64 0, .int .i64 0, .string ⟨#[]⟩, .int .i64 0, .int .i64 0, .string ⟨#[]⟩, .int .i64 0, .string ⟨#[]⟩, .string ⟨#[]⟩, .int .i64 0, .string ⟨#[]⟩, .int .i64 0, .slice none 0 0, .int .i64 0]), below_row (ba1 w _) (Nat.le_refl _) _⟩
  case rest =>
    obtain ⟨a, g1, rfl, hg1, b1, hd1⟩ := hcut
    have HG := Lib.hid hg1
    clear hg1
    rename World => W1
    have h3 : h % 3 = 0 ∨ h % 3 = 1 ∨ h % 3 = 2 := by omega
    rcases h3 with h3 | h3 | h3
    · have t0 : (h : Int).tmod 3 = 0 := by rw [Int.tmod_eq_emod_of_nonneg (by omega)]; omega
      have t1 : (h : Int) % 3 = 0 := by omega
      obtain ⟨r, hr⟩ : ∃ r, n % 30 = r := ⟨_, rfl⟩
      have hr30 : r < 30 := by omega
      have u1 : IntKind.i64.wrap (n : Int) = (n : Int) := IntWalk.i64_in _ (by omega)
      have u2 : (n : Int).tmod 30 = (r : Int) := by rw [Int.tmod_eq_emod_of_nonneg (by omega), ← hr]; simp
      have u3 : (n : Int) % 30 = (r : Int) := by rw [← hr]; simp
      have u4 : IntKind.i64.wrap (r : Int) = (r : Int) := IntWalk.i64_in _ (by omega)
      have u5 : IntKind.i64.wrap (1990 + (r : Int)) = 1990 + (r : Int) := IntWalk.i64_in _ (by omega)
      clear h3 hr
      go_upto_region 7 with fail
      clear t0 t1
      go_wp2_with fail
      go_loopw [7, 6] (fun i v wr => ∃ (k : Nat) (t : ByteArray), k ≤ 1990 + r ∧ i = .int .i64 (k : Int) ∧ v = .string t ∧ t.size = k ∧ W1 = wr) (fun i _ _ => 3000 - (intOf i).toNat)
      case atStart => exact ⟨0, ⟨#[]⟩, Nat.zero_le _, rfl, rfl, rfl, rfl⟩
      case round =>
        obtain ⟨k, t, hk, rfl, rfl, ht, rfl⟩ := hrel
        by_cases hlt : k < 1990 + r
        · have hki : (k : Int) < 1990 + (r : Int) := by omega
          have hsz : (t ++ (⟨#[104]⟩ : ByteArray)).size = t.size + 1 := ByteArray.size_append
          go_wp2
          go_roundw
          case rel => exact ⟨k + 1, t ++ ⟨#[104]⟩, by omega, by go_num, rfl, by omega, trivial⟩
          case measure => simp [intOf]; omega
        · have hki : ¬ (k : Int) < 1990 + (r : Int) := by omega
          go_wp2_with fail
          refine (awake9_any _ (HTb.out.up hd1)).mono ?_
          rintro E w2 ⟨rfl, hb2⟩
          have hpg : hpat w2 g1 = some (.cells (rcs (newR a [71, 69, 84]) ⟨none, 0, 0⟩) 32 (0, 0)) := b1.up hb2
          have hsz : (t ++ (⟨#[13, 10, 13, 10]⟩ : ByteArray)).size = t.size + 4 := ByteArray.size_append
          have hB := bon hd1 hb2
          clear hb2
          go_wp2_with fail
          refine (HSame.out (newR a [71, 69, 84]) ⟨none, 0, 0⟩ _ (by omega) _ (fs_zero _) (sm_new _ _) (HTb.out.up hB).mx).mono ?_
          rintro E w3 ⟨rfl, hb3⟩
          go_wp2
          go_ret
          exact ⟨by first | rfl | simp, bon hB hb3⟩
    · have t0 : (h : Int).tmod 3 = 1 := by rw [Int.tmod_eq_emod_of_nonneg (by omega)]; omega
      have t1 : (h : Int) % 3 = 1 := by omega
      clear h3
      go_upto_region 13 with fail
      clear t0 t1
      have HQ : Hid (W1.setCell ⟨g1, 0, none⟩ (.bool true) = W1.setRow g1 (rcs (newR true [71, 69, 84]) ⟨none, 0, 0⟩)) := Lib.hid (b1.row_eq 0 _ rfl)
      have f0 := b1.f 0
      have c0 : W1.cell? ⟨g1, 0, none⟩ = some (.bool a) := b1.c 0 rfl
      go_upto_region 15 with fail
      rw [HQ.out]
      have b2 := box_row (rcs (newR true [71, 69, 84]) ⟨none, 0, 0⟩) b1
      have hd2 : Below w.heap.size w (W1.setRow g1 (rcs (newR true [71, 69, 84]) ⟨none, 0, 0⟩)) := below_row hd1 HG.out _
      clear HQ f0 c0 b1 hd1
      generalize W1.setRow g1 (rcs (newR true [71, 69, 84]) ⟨none, 0, 0⟩) = W2 at *
      have hpg : hpat W2 g1 = some (.cells (rcs (newR true [71, 69, 84]) ⟨none, 0, 0⟩) 32 (0, 0)) := b2
      obtain ⟨T, hT⟩ : ∃ T : Bs, dl ⟨#[72, 84, 84, 80, 47, 49, 46, 48, 32, 50, 48, 48, 32, 79, 75, 13, 10, 13, 10]⟩ = T := ⟨_, rfl⟩
      have hTl : T.length ≤ 1000000 := by rw [← hT, dl_len]; show 19 ≤ 1000000; omega
      have hTb : tb T = ⟨#[72, 84, 84, 80, 47, 49, 46, 48, 32, 50, 48, 48, 32, 79, 75, 13, 10, 13, 10]⟩ := by rw [← hT, tb_dl]
      clear hT
      obtain ⟨Z, hZ⟩ : ∃ Z, feedR (newR true [71, 69, 84]) T = Z := ⟨_, rfl⟩
      have hok := read_ok true [71, 69, 84] T
      have HFd := Lib.hid (rfeed9_c (newR true [71, 69, 84]) ⟨none, 0, 0⟩ T W2 (fs_zero _) (sm_new _ _) hTl)
      rw [hZ] at hok HFd
      rw [hTb] at HFd
      clear hZ hTl hTb
      obtain ⟨R, mz, e⟩ := Z
      simp only at hok
      go_wp2_with fail
      refine HFd.out.mono ?_
      rintro E w3 ⟨S3, O3, ms3, rfl, hF3, -, -, -, hc⟩
      simp only at hF3 ⊢
      have HSm := Lib.hid (sm_of_ok hok)
      have HAw : Hid (Away w3.heap.size S3.A (mkF R.now.fs)) := Lib.hid (fun hne ad hA => by have := hF3.lt hne hA; omega)
      have HG3 : Hid (w.heap.size ≤ w3.heap.size) := Lib.hid (bon hd2 hc).size
      clear hok hpg HFd b2
      go_upto_region 16 with fail
      have hbA : Below w3.heap.size w3 ((w3.alloc (.cells #[.bool false, .string ⟨#[]⟩, .string ⟨#[]⟩, .int .i64 0, .int .i64 0, .string ⟨#[]⟩, .int .i64 0, .int .i64 0, .string ⟨#[]⟩, .int .i64 0, .string ⟨#[]⟩, .string ⟨#[]⟩, .int .i64 0, .string ⟨#[]⟩, .int .i64 0, .slice none 0 0, .int .i64 0] 32)).setRow w3.heap.size (rcs R S3)) := below_row (ba1 w3 _) (Nat.le_refl _) _
      have b3 := box_row (rcs R S3) (Box.new w3 32 #[.bool false, .string ⟨#[]⟩, .string ⟨#[]⟩, .int .i64 0, .int .i64 0, .string ⟨#[]⟩, .int .i64 0, .int .i64 0, .string ⟨#[]⟩, .int .i64 0, .string ⟨#[]⟩, .string ⟨#[]⟩, .int .i64 0, .string ⟨#[]⟩, .int .i64 0, .slice none 0 0, .int .i64 0])
      have hu := bon hc hbA

      replace hF3 := hF3.up hbA
      have hd3 := bon hd2 hu
      obtain ⟨g3, hg⟩ : ∃ k, w3.heap.size = k := ⟨_, rfl⟩
      rw [hg] at b3 hd3 hF3 HAw HG3 ⊢
      clear hg hu hbA hc
      generalize (w3.alloc (.cells #[.bool false, .string ⟨#[]⟩, .string ⟨#[]⟩, .int .i64 0, .int .i64 0, .string ⟨#[]⟩, .int .i64 0, .int .i64 0, .string ⟨#[]⟩, .int .i64 0, .string ⟨#[]⟩, .string ⟨#[]⟩, .int .i64 0, .string ⟨#[]⟩, .int .i64 0, .slice none 0 0, .int .i64 0] 32)).setRow g3 (rcs R S3) = W3 at *
      go_wp2_with fail
      go_loopw [12, 11] (fun i v wr => ∃ (k : Nat) (t : ByteArray), k ≤ 200 ∧ i = .int .i64 (k : Int) ∧ v = .string t ∧ t.size = 20 * k ∧ W3 = wr) (fun i _ _ => 200 - (intOf i).toNat)
      case atStart => exact ⟨0, ⟨#[]⟩, Nat.zero_le _, rfl, rfl, rfl, rfl⟩
      case round =>
        obtain ⟨k, t, hk, rfl, rfl, ht, rfl⟩ := hrel
        by_cases hlt : k < 200
        · have hki : (k : Int) < 200 := by omega
          have hsz : (t ++ (⟨#[48, 49, 50, 51, 52, 53, 54, 55, 56, 57, 65, 66, 67, 68, 69, 70, 71, 72, 73, 10]⟩ : ByteArray)).size = t.size + 20 := ByteArray.size_append
          go_wp2
          go_roundw
          case rel => exact ⟨k + 1, t ++ ⟨#[48, 49, 50, 51, 52, 53, 54, 55, 56, 57, 65, 66, 67, 68, 69, 70, 71, 72, 73, 10]⟩, by omega, by go_num, rfl, by omega, trivial⟩
          case measure => simp [intOf]; omega
        · obtain rfl : k = 200 := by omega
          have i3 : (3990 : Int) ≤ (t.size : Int) := by omega
          have f5 := b3.f 5
          have c5 : W3.cell? ⟨g3, 5, none⟩ = some (.string (tb R.b)) := b3.c 5 rfl
          obtain ⟨l, hl⟩ : ∃ l, t.extract 0 3990 = tb l := ⟨_, (tb_dl _).symm⟩
          have hll : l.length = 3990 := by rw [← tb_size, ← hl, ByteArray.size_extract]; omega
          obtain ⟨R2, hR2⟩ : ∃ R2 : Rr, ({ R with b := l } : Rr) = R2 := ⟨_, rfl⟩
          have HQ : Hid (W3.setCell ⟨g3, 5, none⟩ (.string (tb l)) = W3.setRow g3 (rcs R2 S3)) := Lib.hid (by rw [← hR2]; exact b3.row_eq 5 _ rfl)
          have HSm2 : Hid (SmR R2) := Lib.hid (by rw [← hR2]; exact ⟨HSm.out.hd, (by show l.length ≤ 4611686018427387904; omega), HSm.out.ln, HSm.out.m, HSm.out.t, HSm.out.r, HSm.out.n, HSm.out.fs⟩)
          have HN : Hid (R2.now = R.now) := Lib.hid (by rw [← hR2])
          clear hR2
          go_upto_region 22 with fail
          rw [HQ.out]
          have b4 := box_row (rcs R2 S3) b3
          have hd4 : Below w.heap.size w (W3.setRow g3 (rcs R2 S3)) := below_row hd3 HG3.out _
          have hF4 : Fs (W3.setRow g3 (rcs R2 S3)) S3 (mkF R2.now.fs) := by rw [HN.out]; exact Fs.row hF3 HAw.out _
          clear HQ f5 c5 b3 hd3 hF3 HAw HG3 HN hl hll i3
          generalize W3.setRow g3 (rcs R2 S3) = W4 at *
          have hpg : hpat W4 g3 = some (.cells (rcs R2 S3) 32 (0, 0)) := b4
          have HF4 := Lib.hid hF4
          have HD4 := Lib.hid hd4
          have HS4 := Lib.hid (fun W (h : Below W4.heap.size W4 W) T hT => HSame.out R2 S3 T hT W (HF4.out.up h) HSm2.out ((HTb.out.up (bon HD4.out h)).mx))
          obtain ⟨r, hr⟩ : ∃ r, n % 20 = r := ⟨_, rfl⟩
          have hr20 : r < 20 := by omega
          have t1 : IntKind.i64.wrap (n : Int) = (n : Int) := IntWalk.i64_in _ (by omega)
          have t2 : (n : Int).tmod 20 = (r : Int) := by rw [Int.tmod_eq_emod_of_nonneg (by omega), ← hr]; simp
          have t3 : (n : Int) % 20 = (r : Int) := by rw [← hr]; simp
          have t4 : IntKind.i64.wrap (r : Int) = (r : Int) := IntWalk.i64_in _ (by omega)
          have r0 : (0 : Int) ≤ (r : Int) := by omega
          have hs4 : t.size = 4000 := by omega
          have r1 : (r : Int) ≤ 4000 := by omega
          have zx : (t.extract 0 r).size ≤ 5000 := by rw [ByteArray.size_extract]; omega
          clear b4 hF4 hd4 hr ht
          go_region_held3 (fun W' => Below W4.heap.size W4 W' ∧ hpat W' g3 = some (.cells (rcs R2 S3) 32 (0, 0)))
            (first | exact heldB hbP (by assumption) | exact ⟨(Below.refl _ _).drew, hpg⟩ | assumption | fail)
            (first
              | (go_at_call 11; refine (awake9_any _ (HTb.out.up (bon HD4.out (And.left (by assumption))))).mono ?_; rintro e wP ⟨rfl, hbP⟩)
              | (go_at_call 12; refine (HS4.out _ (And.left (by assumption)) _ (by first | exact zx | simpa using zx)).mono ?_; rintro e wP ⟨rfl, hbP⟩)
              | fail)
          all_goals
            rename_i hHeld
            have hfin := bon HD4.out hHeld.1
            clear hHeld
            go_wp2
            go_ret
            exact ⟨by first | rfl | simp, hfin⟩
    · have t0 : (h : Int).tmod 3 = 2 := by rw [Int.tmod_eq_emod_of_nonneg (by omega)]; omega
      have t1 : (h : Int) % 3 = 2 := by omega
      clear h3
      go_upto_region 4 with fail
      clear t0 t1
      have HQ : Hid (W1.setCell ⟨g1, 0, none⟩ (.bool false) = W1.setRow g1 (rcs (newR false [71, 69, 84]) ⟨none, 0, 0⟩)) := Lib.hid (b1.row_eq 0 _ rfl)
      have f0 := b1.f 0
      have c0 : W1.cell? ⟨g1, 0, none⟩ = some (.bool a) := b1.c 0 rfl
      go_upto_region 15 with fail
      rw [HQ.out]
      have b2 := box_row (rcs (newR false [71, 69, 84]) ⟨none, 0, 0⟩) b1
      have hd2 : Below w.heap.size w (W1.setRow g1 (rcs (newR false [71, 69, 84]) ⟨none, 0, 0⟩)) := below_row hd1 HG.out _
      clear HQ f0 c0 b1 hd1
      generalize W1.setRow g1 (rcs (newR false [71, 69, 84]) ⟨none, 0, 0⟩) = W2 at *
      have hpg : hpat W2 g1 = some (.cells (rcs (newR false [71, 69, 84]) ⟨none, 0, 0⟩) 32 (0, 0)) := b2
      obtain ⟨T, hT⟩ : ∃ T : Bs, dl ⟨#[80, 85, 84, 32, 47, 32, 72, 84, 84, 80, 47, 49, 46, 49, 13, 10, 67, 111, 110, 116, 101, 110, 116, 45, 76, 101, 110, 103, 116, 104, 58, 32, 52, 48, 48, 48, 13, 10, 13, 10]⟩ = T := ⟨_, rfl⟩
      have hTl : T.length ≤ 1000000 := by rw [← hT, dl_len]; show 40 ≤ 1000000; omega
      have hTb : tb T = ⟨#[80, 85, 84, 32, 47, 32, 72, 84, 84, 80, 47, 49, 46, 49, 13, 10, 67, 111, 110, 116, 101, 110, 116, 45, 76, 101, 110, 103, 116, 104, 58, 32, 52, 48, 48, 48, 13, 10, 13, 10]⟩ := by rw [← hT, tb_dl]
      clear hT
      obtain ⟨Z, hZ⟩ : ∃ Z, feedR (newR false [71, 69, 84]) T = Z := ⟨_, rfl⟩
      have hok := read_ok false [71, 69, 84] T
      have HFd := Lib.hid (rfeed9_c (newR false [71, 69, 84]) ⟨none, 0, 0⟩ T W2 (fs_zero _) (sm_new _ _) hTl)
      rw [hZ] at hok HFd
      rw [hTb] at HFd
      clear hZ hTl hTb
      obtain ⟨R, mz, e⟩ := Z
      simp only at hok
      go_wp2_with fail
      refine HFd.out.mono ?_
      rintro E w3 ⟨S3, O3, ms3, rfl, hF3, -, -, -, hc⟩
      simp only at hF3 ⊢
      have HSm := Lib.hid (sm_of_ok hok)
      have HAw : Hid (Away w3.heap.size S3.A (mkF R.now.fs)) := Lib.hid (fun hne ad hA => by have := hF3.lt hne hA; omega)
      have HG3 : Hid (w.heap.size ≤ w3.heap.size) := Lib.hid (bon hd2 hc).size
      clear hok hpg HFd b2
      go_upto_region 16 with fail
      have hbA : Below w3.heap.size w3 ((w3.alloc (.cells #[.bool false, .string ⟨#[]⟩, .string ⟨#[]⟩, .int .i64 0, .int .i64 0, .string ⟨#[]⟩, .int .i64 0, .int .i64 0, .string ⟨#[]⟩, .int .i64 0, .string ⟨#[]⟩, .string ⟨#[]⟩, .int .i64 0, .string ⟨#[]⟩, .int .i64 0, .slice none 0 0, .int .i64 0] 32)).setRow w3.heap.size (rcs R S3)) := below_row (ba1 w3 _) (Nat.le_refl _) _
      have b3 := box_row (rcs R S3) (Box.new w3 32 #[.bool false, .string ⟨#[]⟩, .string ⟨#[]⟩, .int .i64 0, .int .i64 0, .string ⟨#[]⟩, .int .i64 0, .int .i64 0, .string ⟨#[]⟩, .int .i64 0, .string ⟨#[]⟩, .string ⟨#[]⟩, .int .i64 0, .string ⟨#[]⟩, .int .i64 0, .slice none 0 0, .int .i64 0])
      have hu := bon hc hbA

      replace hF3 := hF3.up hbA
      have hd3 := bon hd2 hu
      obtain ⟨g3, hg⟩ : ∃ k, w3.heap.size = k := ⟨_, rfl⟩
      rw [hg] at b3 hd3 hF3 HAw HG3 ⊢
      clear hg hu hbA hc
      generalize (w3.alloc (.cells #[.bool false, .string ⟨#[]⟩, .string ⟨#[]⟩, .int .i64 0, .int .i64 0, .string ⟨#[]⟩, .int .i64 0, .int .i64 0, .string ⟨#[]⟩, .int .i64 0, .string ⟨#[]⟩, .string ⟨#[]⟩, .int .i64 0, .string ⟨#[]⟩, .int .i64 0, .slice none 0 0, .int .i64 0] 32)).setRow g3 (rcs R S3) = W3 at *
      go_wp2_with fail
      go_loopw [12, 11] (fun i v wr => ∃ (k : Nat) (t : ByteArray), k ≤ 200 ∧ i = .int .i64 (k : Int) ∧ v = .string t ∧ t.size = 20 * k ∧ W3 = wr) (fun i _ _ => 200 - (intOf i).toNat)
      case atStart => exact ⟨0, ⟨#[]⟩, Nat.zero_le _, rfl, rfl, rfl, rfl⟩
      case round =>
        obtain ⟨k, t, hk, rfl, rfl, ht, rfl⟩ := hrel
        by_cases hlt : k < 200
        · have hki : (k : Int) < 200 := by omega
          have hsz : (t ++ (⟨#[48, 49, 50, 51, 52, 53, 54, 55, 56, 57, 65, 66, 67, 68, 69, 70, 71, 72, 73, 10]⟩ : ByteArray)).size = t.size + 20 := ByteArray.size_append
          go_wp2
          go_roundw
          case rel => exact ⟨k + 1, t ++ ⟨#[48, 49, 50, 51, 52, 53, 54, 55, 56, 57, 65, 66, 67, 68, 69, 70, 71, 72, 73, 10]⟩, by omega, by go_num, rfl, by omega, trivial⟩
          case measure => simp [intOf]; omega
        · obtain rfl : k = 200 := by omega
          have i3 : (3990 : Int) ≤ (t.size : Int) := by omega
          have f5 := b3.f 5
          have c5 : W3.cell? ⟨g3, 5, none⟩ = some (.string (tb R.b)) := b3.c 5 rfl
          obtain ⟨l, hl⟩ : ∃ l, t.extract 0 3990 = tb l := ⟨_, (tb_dl _).symm⟩
          have hll : l.length = 3990 := by rw [← tb_size, ← hl, ByteArray.size_extract]; omega
          obtain ⟨R2, hR2⟩ : ∃ R2 : Rr, ({ R with b := l } : Rr) = R2 := ⟨_, rfl⟩
          have HQ : Hid (W3.setCell ⟨g3, 5, none⟩ (.string (tb l)) = W3.setRow g3 (rcs R2 S3)) := Lib.hid (by rw [← hR2]; exact b3.row_eq 5 _ rfl)
          have HSm2 : Hid (SmR R2) := Lib.hid (by rw [← hR2]; exact ⟨HSm.out.hd, (by show l.length ≤ 4611686018427387904; omega), HSm.out.ln, HSm.out.m, HSm.out.t, HSm.out.r, HSm.out.n, HSm.out.fs⟩)
          have HN : Hid (R2.now = R.now) := Lib.hid (by rw [← hR2])
          clear hR2
          go_upto_region 22 with fail
          rw [HQ.out]
          have b4 := box_row (rcs R2 S3) b3
          have hd4 : Below w.heap.size w (W3.setRow g3 (rcs R2 S3)) := below_row hd3 HG3.out _
          have hF4 : Fs (W3.setRow g3 (rcs R2 S3)) S3 (mkF R2.now.fs) := by rw [HN.out]; exact Fs.row hF3 HAw.out _
          clear HQ f5 c5 b3 hd3 hF3 HAw HG3 HN hl hll i3
          generalize W3.setRow g3 (rcs R2 S3) = W4 at *
          have hpg : hpat W4 g3 = some (.cells (rcs R2 S3) 32 (0, 0)) := b4
          have HF4 := Lib.hid hF4
          have HD4 := Lib.hid hd4
          have HS4 := Lib.hid (fun W (h : Below W4.heap.size W4 W) T hT => HSame.out R2 S3 T hT W (HF4.out.up h) HSm2.out ((HTb.out.up (bon HD4.out h)).mx))
          obtain ⟨r, hr⟩ : ∃ r, n % 20 = r := ⟨_, rfl⟩
          have hr20 : r < 20 := by omega
          have t1 : IntKind.i64.wrap (n : Int) = (n : Int) := IntWalk.i64_in _ (by omega)
          have t2 : (n : Int).tmod 20 = (r : Int) := by rw [Int.tmod_eq_emod_of_nonneg (by omega), ← hr]; simp
          have t3 : (n : Int) % 20 = (r : Int) := by rw [← hr]; simp
          have t4 : IntKind.i64.wrap (r : Int) = (r : Int) := IntWalk.i64_in _ (by omega)
          have r0 : (0 : Int) ≤ (r : Int) := by omega
          have hs4 : t.size = 4000 := by omega
          have r1 : (r : Int) ≤ 4000 := by omega
          have zx : (t.extract 0 r).size ≤ 5000 := by rw [ByteArray.size_extract]; omega
          clear b4 hF4 hd4 hr ht
          go_region_held3 (fun W' => Below W4.heap.size W4 W' ∧ hpat W' g3 = some (.cells (rcs R2 S3) 32 (0, 0)))
            (first | exact heldB hbP (by assumption) | exact ⟨(Below.refl _ _).drew, hpg⟩ | assumption | fail)
            (first
              | (go_at_call 11; refine (awake9_any _ (HTb.out.up (bon HD4.out (And.left (by assumption))))).mono ?_; rintro e wP ⟨rfl, hbP⟩)
              | (go_at_call 12; refine (HS4.out _ (And.left (by assumption)) _ (by first | exact zx | simpa using zx)).mono ?_; rintro e wP ⟨rfl, hbP⟩)
              | fail)
          all_goals
            rename_i hHeld
            have hfin := bon HD4.out hHeld.1
            clear hHeld
            go_wp2
            go_ret
            exact ⟨by first | rfl | simp, hfin⟩
end Go.Proofs.YtdlihfbaepjliaaGreatDoor
