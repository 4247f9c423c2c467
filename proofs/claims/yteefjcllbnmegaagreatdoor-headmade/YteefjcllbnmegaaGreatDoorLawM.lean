/-
  The walk of the law HeadMade.
-/
import Derived.Test.YteefjcllbnmegaaGreatDoorLawE
namespace Go.Proofs.YteefjcllbnmegaaGreatDoor
open Go.RowKit

def lsI : List ByteArray := [⟨#[32]⟩, ⟨#[58]⟩, ⟨#[13, 10]⟩, ⟨#[13]⟩, ⟨#[10]⟩, ⟨#[49]⟩, ⟨#[44]⟩, ⟨#[9]⟩]
theorem lsI_le : ∀ x ∈ lsI, x.size ≤ 2 := by decide +kernel
theorem conv1d (W : World) (x : UInt8) : (convert 22 9 (.slice (some ⟨W.heap.size, 0, none⟩) 1 1)).run Tryz.prog (W.alloc (.cells #[.int .u8 (x.toNat : Int)] 5)).drew = .ok (.string ⟨#[x]⟩) (W.alloc (.cells #[.int .u8 (x.toNat : Int)] 5)).drew := by
  have h := run_convert_bytes_back (P := Tryz.prog) (W.alloc (.cells #[.int .u8 (x.toNat : Int)] 5)).drew 22 9 5 ⟨W.heap.size, 0, none⟩ 1 [x] Tryz.underlying22 Tryz.underlying5 Tryz.underlying9 (fun j hj => by
    obtain rfl : j = 0 := by simpa using hj
    exact (Box.new W 5 #[.int .u8 (x.toNat : Int)]).c 0 rfl)
  simpa using h
theorem text_12 (h : Hd) (a : Bool) : 5 ≤ (textH h a).length := by
  have hv : 7 ≤ (verT h.mi).length := by
    unfold verT
    simp only [List.length_append, List.length_cons, List.length_nil]
    omega
  unfold textH firstT
  split
  · simp only [List.length_append, crlf, List.length_cons, List.length_nil]
    omega
  · simp only [List.length_append, crlf, List.length_cons, List.length_nil]
    omega

set_option maxRecDepth 100000 in
set_option maxHeartbeats 2000000 in
theorem headMade_any (A : Option Addr) (L c : Nat) (ys : List UInt8) (a : Bool) (ix : Nat) (by_ : UInt8) (how : Nat) (hix : ix < 256) (hhow : how < 256) (w : World) (hl : ys.length = L) (hm : L ≤ maxLen) (hU : Us w w.heap.size A ys) (hT : Tabs w) : Calls Tryz.prog 4 #[.slice A L c, .bool a, .int .u8 (ix : Int), .int .u8 (by_.toNat : Int), .int .u8 (how : Int)] w (BoolEnds true w) := by
  have hbyn := by_.toNat_lt
  have HM := Lib.hid (made_any A L c ys a w hl hm hU)
  clear hl hU
  go_enter Tryz.func4, Tryz.ntmps4
  go_wp2_with fail
  refine HM.out.mono ?_
  rintro e w2 ⟨m, t, st, r, mi, S, fs, rfl, hG, hF, hb2⟩
  obtain ⟨zm, zt, zr, zn, zf⟩ := good_few hG
  have hlen := good_len hG
  obtain ⟨hmi, hst⟩ := right_bounds hG.1
  have hn := hF.len
  have b2 := bon hb2 (ba1 w2 (.cells #[.string m, .string t, .int .i64 st, .string r, .int .i64 mi, .slice S.A S.n S.c] 30))
  have hF2 := hF.up (ba1 w2 (.cells #[.string m, .string t, .int .i64 st, .string r, .int .i64 mi, .slice S.A S.n S.c] 30))
  have bx := Box.new w2 30 #[.string m, .string t, .int .i64 st, .string r, .int .i64 mi, .slice S.A S.n S.c]
  have HTx := Lib.hid (rtextH_any m t st r mi S.A S.n S.c fs a _ zm zt zr hmi hst hF2 (by omega) zf)
  have HTold : Hid (∀ W, Fs W S fs → Tabs W → Calls Tryz.prog 11 #[.agg #[.string m, .string t, .int .i64 st, .string r, .int .i64 mi, .slice S.A S.n S.c]] W (BoolEnds true W)) := Lib.hid (fun W hW hTW => told_any m t st r mi S.A S.n S.c fs W zm zt zr hW (by omega) zf hTW)
  have HF2 := Lib.hid hF2
  have HLen := Lib.hid hlen
  clear hG hF hb2 hlen hn zm zt zr zn zf hF2 hmi hst HM
  go_wp2_with fail
  refine HTx.out.mono ?_
  rintro e w3 ⟨s0, rfl, hs0, hb3⟩
  have h12 := text_12 (hdOf m t st r mi fs) a
  rw [← hs0, dl_len] at h12
  have hsz : s0.size ≤ 2004 := by rw [← dl_len, hs0]; exact HLen.out
  have bx3 := bx.up hb3
  have b3 := bon b2 hb3
  have HF3 := Lib.hid (HF2.out.up hb3)
  obtain ⟨g, hg⟩ : ∃ g, w2.heap.size = g := ⟨_, rfl⟩
  rw [hg] at bx3 ⊢
  clear hg bx b2 HF2 HTx hs0 hb3 HLen
  have hs1 : ((s0.size : Int) - 4).toNat = s0.size - 4 := by omega
  have hs2 : (0 : Int) ≤ (s0.size : Int) - 4 := by omega
  have hs3 : (s0.size : Int) - 4 ≤ (s0.size : Int) := by omega
  have hsn : (s0.extract 0 (s0.size - 4)).size = s0.size - 4 := by rw [ByteArray.size_extract]; omega
  go_upto_region 4 with fail
  obtain ⟨s, hse⟩ : ∃ s, s0.extract 0 (s0.size - 4) = s := ⟨_, rfl⟩
  rw [hse] at hsn ⊢
  have hN1 : 1 ≤ s.size := by omega
  have hN2 : s.size ≤ 2000 := by omega
  clear hse hsn hs1 hs2 hs3 h12 hsz
  have t1 : IntKind.i64.wrap (ix : Int) = (ix : Int) := IntWalk.i64_in _ (by omega)
  obtain ⟨k, hk⟩ : ∃ k, ix % s.size = k := ⟨_, rfl⟩
  have hkn : k < s.size := by rw [← hk]; exact Nat.mod_lt _ (by omega)
  have t2 : (ix : Int).tmod (s.size : Int) = (k : Int) := by rw [Int.tmod_eq_emod_of_nonneg (by omega), ← hk]; simp
  have t3 : (ix : Int) % (s.size : Int) = (k : Int) := by rw [← hk]; simp
  have t4 : IntKind.i64.wrap (k : Int) = (k : Int) := IntWalk.i64_in _ (by omega)
  have t5 : ¬ (s.size : Int) = 0 := by omega
  go_upto_region 5 with fail
  clear t1 t2 t3 t5 hk hix
  have he1 : (0 : Int) ≤ (k : Int) := by omega
  have he2 : (k : Int) ≤ (s.size : Int) := by omega
  have he3 : (k : Int) + 1 ≤ (s.size : Int) := by omega
  have he4 : (0 : Int) ≤ (k : Int) + 1 := by omega
  have he5 : ((k : Int) + 1).toNat = k + 1 := by omega
  have he6 : k + 1 ≤ s.size := by omega
  have he7 : IntKind.i64.wrap ((k : Int) + 1) = (k : Int) + 1 := IntWalk.i64_in _ (by omega)
  have z1 : (s.extract 0 k).size = k := by rw [ByteArray.size_extract]; omega
  have z2 : (s.extract (k + 1) s.size).size = s.size - (k + 1) := by rw [ByteArray.size_extract]; omega
  have z3 : (s.extract k s.size).size = s.size - k := by rw [ByteArray.size_extract]; omega
  have k1 := fun W => run_string_add_sum (P := Tryz.prog) W (s.extract 0 k) ⟨#[by_]⟩ (by rw [z1]; show k + 1 ≤ _; omega)
  have z4 : (s.extract 0 k ++ ⟨#[by_]⟩).size = k + 1 := by rw [ByteArray.size_append, z1]; rfl
  have k2 := fun W => run_string_add_sum (P := Tryz.prog) W (s.extract 0 k ++ ⟨#[by_]⟩) (s.extract (k + 1) s.size) (by rw [z4, z2]; omega)
  have z5 : (s.extract 0 k ++ ⟨#[by_]⟩ ++ s.extract (k + 1) s.size).size ≤ 4000 := by rw [ByteArray.size_append, z4, z2]; omega
  have hcv := fun W => conv1 W by_
  have hcw := fun W => conv1d W by_
  go_cut [14] (fun v W => ∃ t' : ByteArray, v = .string t' ∧ t'.size ≤ 4000 ∧ Below w3.heap.size w3 W)
  case first =>
    go_region
    all_goals (go_wp2_with fail; go_meet)
    all_goals
      refine ⟨_, rfl, z5, ?_⟩
      first | exact ba1 _ _ | exact (ba1 _ _).drew
  case' rest =>
    obtain ⟨t', rfl, ht', hb40⟩ := hcut
    have hb4 := bon b3 hb40
    have bx4 := bx3.up hb40
    have HF4 := Lib.hid (HF3.out.up hb40)
    clear hb40 bx3 HF3 b3
    clear k1 k2 hcv hcw z4 z5
    generalize wc = W at *
    have hq4 : how % 4 = 0 ∨ how % 4 = 1 ∨ how % 4 = 2 ∨ how % 4 = 3 := by omega
    have u0 : IntKind.u8.wrap 0 = 0 := rfl
    have u1 : IntKind.u8.wrap 1 = 1 := rfl
    have u2 : IntKind.u8.wrap 2 = 2 := rfl
    have u3 : IntKind.u8.wrap 3 = 3 := rfl
    have v1 : (how : Int).tmod 4 = (how : Int) % 4 := Int.tmod_eq_emod_of_nonneg (by omega)
    refine hq4.elim (fun hq => ?c0) (fun h => h.elim (fun hq => ?c1) (fun h => h.elim (fun hq => ?c2) (fun hq => ?c3)))
    case' c0 =>
      have v2 : (how : Int).tmod 4 = 0 := by omega
      have v3 : (how : Int) % 4 = 0 := by omega
      clear v1 hq
      have z5 := ht'
      go_upto_region 13 with fail
      obtain ⟨tt, htt⟩ : ∃ tt, t' = tt := ⟨_, rfl⟩
      rw [htt] at z5 ⊢
      clear htt
    case' c1 =>
      have v2 : (how : Int).tmod 4 = 1 := by omega
      have v3 : (how : Int) % 4 = 1 := by omega
      clear v1 hq
      have k2 := fun W => run_string_add_sum (P := Tryz.prog) W (s.extract 0 k) (s.extract (k + 1) s.size) (by rw [z1, z2]; omega)
      have z5 : (s.extract 0 k ++ s.extract (k + 1) s.size).size ≤ 4000 := by rw [ByteArray.size_append, z1, z2]; omega
      go_wp2_with fail
      go_quiet (fail)
      go_upto_region 13 with fail
      obtain ⟨tt, htt⟩ : ∃ tt, s.extract 0 k ++ s.extract (k + 1) s.size = tt := ⟨_, rfl⟩
      rw [htt] at z5 ⊢
      clear htt
    case' c2 =>
      have v2 : (how : Int).tmod 4 = 2 := by omega
      have v3 : (how : Int) % 4 = 2 := by omega
      clear v1 hq
      have z5 : (s.extract 0 k).size ≤ 4000 := by omega
      go_upto_region 13 with fail
      obtain ⟨tt, htt⟩ : ∃ tt, s.extract 0 k = tt := ⟨_, rfl⟩
      rw [htt] at z5 ⊢
      clear htt
    case' c3 =>
      have v2 : (how : Int).tmod 4 = 3 := by omega
      have v3 : (how : Int) % 4 = 3 := by omega
      clear v1 hq
      have y1 : IntKind.i64.wrap (by_.toNat : Int) = (by_.toNat : Int) := IntWalk.i64_in _ (by omega)
      obtain ⟨p, hp⟩ : ∃ p, by_.toNat % 8 = p := ⟨_, rfl⟩
      have hp8 : p < 8 := by omega
      have y2 : (by_.toNat : Int).tmod 8 = (p : Int) := by rw [Int.tmod_eq_emod_of_nonneg (by omega), ← hp]; simp
      have y3 : (by_.toNat : Int) % 8 = (p : Int) := by rw [← hp]; simp
      have y4 : IntKind.i64.wrap (p : Int) = (p : Int) := IntWalk.i64_in _ (by omega)
      have y5 : (p : Int) < 8 := by omega
      have y6 : (0 : Int) ≤ (p : Int) := by omega
      obtain ⟨x, hxm, hx0⟩ : ∃ x, x ∈ lsI ∧ ∀ W : World, (W.alloc (.cells #[.string ⟨#[32]⟩, .string ⟨#[58]⟩, .string ⟨#[13, 10]⟩, .string ⟨#[13]⟩, .string ⟨#[10]⟩, .string ⟨#[49]⟩, .string ⟨#[44]⟩, .string ⟨#[9]⟩] 9)).cell? ⟨W.heap.size, p, none⟩ = some (.string x) := by
        refine ⟨lsI[p]'(by simpa [lsI] using hp8), List.getElem_mem _, fun W => ?_⟩
        exact (Box.new W 9 (svs lsI).toArray).c p (by simp [svs, show p < lsI.length by simpa [lsI] using hp8])
      have hxs := lsI_le x hxm
      clear hxm hp
      have k1 := fun W => run_string_add_sum (P := Tryz.prog) W (s.extract 0 k) x (by rw [z1]; omega)
      have z4 : (s.extract 0 k ++ x).size ≤ k + 2 := by rw [ByteArray.size_append, z1]; omega
      have k2 := fun W => run_string_add_sum (P := Tryz.prog) W (s.extract 0 k ++ x) (s.extract k s.size) (by rw [z3]; omega)
      have z5 : (s.extract 0 k ++ x ++ s.extract k s.size).size ≤ 4000 := by rw [ByteArray.size_append, z3]; omega
      go_wp2_with fail
      go_region
      all_goals
        go_upto_region 13 with fail
        obtain ⟨tt, htt⟩ : ∃ tt, s.extract 0 k ++ x ++ s.extract k s.size = tt := ⟨_, rfl⟩
        rw [htt] at z5 ⊢
        clear htt
  all_goals
    clear z1 z2 z3 he1 he2 he3 he4 he5 he6 he7 t4 v2 v3 u0 u1 u2 u3
    go_wp2_with fail
    refine (awake_any _ (hT.up (by first | exact hb4 | exact hb4.drew | exact below_drewN hb4 _ | exact bon hb4 (ba1 _ _) | exact (bon hb4 (ba1 _ _)).drew | exact below_drewN (bon hb4 (ba1 _ _)) _))).mono ?_
    rintro e wA ⟨rfl, hbA⟩
    have hAW : Below W.heap.size W wA := (by first | exact hbA | exact bon (Below.refl _ _).drew hbA | exact bon (below_drewN (Below.refl _ _) _) hbA | exact bon (ba1 _ _) hbA | exact bon (ba1 _ _).drew hbA | exact bon (below_drewN (ba1 _ _) _) hbA)
    clear hbA
    have hAw := bon hb4 hAW
    have bxA := bx4.up hAW
    have HTo := Lib.hid (HTold.out wA (HF4.out.up hAW) (hT.up hAw))
    obtain ⟨c0, c1, c2, c3, c4, c5⟩ := bxA.six
    clear hb4 hAW bx4 HTold HF4 bxA
    go_wp2_with fail
    refine HTo.out.mono ?_
    rintro e wB ⟨rfl, hbB⟩
    have hBw := bon hAw hbB
    clear c0 c1 c2 c3 c4 c5 HTo hAw hbB
    have HS1 := Lib.hid (same_any s (by omega) wB (hT.up hBw))
    go_wp2_with fail
    refine HS1.out.mono ?_
    rintro e wC ⟨rfl, hbC⟩
    have hCw := bon hBw hbC
    have HS2 := Lib.hid (same_any tt (by omega) wC (hT.up hCw))
    clear HS1 hBw hbC
    go_wp2_with fail
    refine HS2.out.mono ?_
    rintro e wD ⟨rfl, hbD⟩
    have hDw := bon hCw hbD
    clear HS2 hCw hbD
    go_wp2
    go_ret
    exact ⟨by rfl, hDw⟩
end Go.Proofs.YteefjcllbnmegaaGreatDoor
