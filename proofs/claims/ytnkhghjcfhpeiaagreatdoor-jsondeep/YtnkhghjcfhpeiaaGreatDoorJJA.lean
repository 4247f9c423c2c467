/-
  What the laws of json ask of its calls; the walk of the laws' own awake.
-/
import Derived.Test.YtnkhghjcfhpeiaaGreatDoorJJs
import Derived.Test.YtnkhghjcfhpeiaaGreatDoorJWords
import Derived.Test.YtnkhghjcfhpeiaaGreatDoorJNBits
namespace Go.Proofs.YtnkhghjcfhpeiaaGreatDoor
open Go.RowKit
def v1J : Jv := (.mk 7 [] [[97]] [.mk 6 [] [] [.mk 4 [49] [] [], .mk 3 [] [] []]])
theorem ja1 : parseJ [32, 123, 34, 97, 34, 58, 32, 91, 49, 44, 32, 116, 114, 117, 101, 93, 125, 32] = (v1J, 0, 0) := by kernel_rfl
theorem ja2 : parseJ [91, 49, 44, 93] = (.zero, 31, 3) := by kernel_rfl
theorem ja3 : parseJ [123, 34, 97, 34, 58, 49, 44, 34, 97, 34, 58, 50, 125] = (.zero, 31, 7) := by kernel_rfl
theorem ja4 : printJ v1J = ([123, 34, 97, 34, 58, 91, 49, 44, 116, 114, 117, 101, 93, 125], 0) := by kernel_rfl
theorem ja5 : printJ .zero = ([], 1) := by kernel_rfl
theorem ja6 : rightJ v1J = true := by kernel_rfl
theorem ja7 : sameJ v1J v1J = true := (same_iff _ _).2 rfl
theorem ja8 : sameJ v1J .zero = false := by kernel_rfl
theorem jzero (w : World) (P : Nat → Prop) : JV w P .zero (jx .zero ⟨none, 0, 0⟩ ⟨none, 0, 0⟩) := by
  unfold Jv.zero
  rw [JV]
  exact ⟨⟨none, 0, 0⟩, ⟨none, 0, 0⟩, [], rfl, ⟨rfl, fun h => absurd h (by simp [svs]), fun _ => rfl, Nat.le_refl _, Nat.zero_le _⟩, ⟨rfl, fun h => absurd h (by simp), fun _ => rfl, Nat.le_refl _, Nat.zero_le _⟩, by rw [JL]⟩
set_option maxRecDepth 100000 in
set_option maxHeartbeats 4000000 in
theorem awakeJ (hR : JPR) (hP : JPP) (hJ : JPJ) (hS : JPS) (w : World) (hT : TJ w) : Calls Tryz.prog 7 #[] w (BoolEnds true w) := by
  have HT := Lib.hid hT
  have H1 : Hid (∀ W, TJ W → Calls Tryz.prog 13 #[.string ⟨#[32, 123, 34, 97, 34, 58, 32, 91, 49, 44, 32, 116, 114, 117, 101, 93, 125, 32]⟩] W (ParEnds (v1J, 0, 0) W)) := Lib.hid (fun W t => by have := hJ [32, 123, 34, 97, 34, 58, 32, 91, 49, 44, 32, 116, 114, 117, 101, 93, 125, 32] W (by decide) t; rw [ja1] at this; exact this)
  have H2 : Hid (∀ W, TJ W → Calls Tryz.prog 13 #[.string ⟨#[91, 49, 44, 93]⟩] W (ParEnds (.zero, 31, 3) W)) := Lib.hid (fun W t => by have := hJ [91, 49, 44, 93] W (by decide) t; rw [ja2] at this; exact this)
  have H3 : Hid (∀ W, TJ W → Calls Tryz.prog 13 #[.string ⟨#[123, 34, 97, 34, 58, 49, 44, 34, 97, 34, 58, 50, 125]⟩] W (ParEnds (.zero, 31, 7) W)) := Lib.hid (fun W t => by have := hJ [123, 34, 97, 34, 58, 49, 44, 34, 97, 34, 58, 50, 125] W (by decide) t; rw [ja3] at this; exact this)
  have H4 : Hid (∀ K S W, JV W anyB v1J (jx v1J K S) → TJ W → Calls Tryz.prog 12 #[jx v1J K S] W (fun E w' => E = .returned (.tuple #[.string ⟨#[123, 34, 97, 34, 58, 91, 49, 44, 116, 114, 117, 101, 93, 125]⟩, .int .i64 0]) ∧ Below W.heap.size W w')) := Lib.hid (fun K S W h t => by have := hP v1J K S W (by decide) h t; rw [ja4] at this; exact this)
  have H5 : Hid (∀ W, TJ W → Calls Tryz.prog 12 #[.agg #[.int .i64 0, .string ⟨#[]⟩, .slice none 0 0, .slice none 0 0]] W (PriEnds ([], 1) W)) := Lib.hid (fun W t => by have := hP .zero ⟨none, 0, 0⟩ ⟨none, 0, 0⟩ W (by decide) (jzero W _) t; rw [ja5] at this; exact this)
  have H6 : Hid (∀ K S W, JV W anyB v1J (jx v1J K S) → TJ W → Calls Tryz.prog 16 #[jx v1J K S] W (BoolEnds true W)) := Lib.hid (fun K S W h t => by have := hR v1J K S W (by decide) h t; rw [ja6] at this; exact this)
  have H7 : Hid (∀ K S W, JV W anyB v1J (jx v1J K S) → TJ W → Calls Tryz.prog 14 #[jx v1J K S, jx v1J K S] W (BoolEnds true W)) := Lib.hid (fun K S W h t => by have := hS v1J v1J K S K S W (by decide) h h t; rw [ja7] at this; exact this)
  have H8 : Hid (∀ K S W, JV W anyB v1J (jx v1J K S) → TJ W → Calls Tryz.prog 14 #[jx v1J K S, .agg #[.int .i64 0, .string ⟨#[]⟩, .slice none 0 0, .slice none 0 0]] W (BoolEnds false W)) := Lib.hid (fun K S W h t => by have := hS v1J .zero K S ⟨none, 0, 0⟩ ⟨none, 0, 0⟩ W (by decide) h (jzero W _) t; rw [ja8] at this; exact this)
  clear hR hP hJ hS hT
  go_enter Tryz.func7, Tryz.ntmps7
  go_wp2_with fail
  refine (H1.out _ HT.out).mono ?_
  rintro E w1 ⟨K, S, rfl, hv1, hd⟩
  have HV1 := Lib.hid hv1
  clear hv1
  simp only [jx, v1J, Jv.k, Jv.t] at H4 H6 H7 H8 ⊢
  obtain ⟨KA, Kn, Kc⟩ := K
  obtain ⟨SA, Sn, Sc⟩ := S
  go_upto_region 2 with fail
  have hb1 := Lib.hid (ba1 w1 (.cells #[.int .i64 7, .string (tb []), .slice KA Kn Kc, .slice SA Sn Sc] 25))
  have bx1 := Lib.hid (Box.new w1 25 #[.int .i64 7, .string (tb []), .slice KA Kn Kc, .slice SA Sn Sc])
  obtain ⟨g1, hg1⟩ : ∃ g1, w1.heap.size = g1 := ⟨_, rfl⟩
  rw [hg1] at bx1 ⊢
  clear hg1
  generalize w1.alloc (.cells #[.int .i64 7, .string (tb []), .slice KA Kn Kc, .slice SA Sn Sc] 25) = W1 at *
  have HB1 := Lib.hid (bon hd hb1.out)
  have HV2 : Hid (JV W1 anyB v1J (.agg #[.int .i64 7, .string (tb []), .slice KA Kn Kc, .slice SA Sn Sc])) := Lib.hid (HV1.out.up hb1.out)
  clear hd hb1 HV1
  obtain ⟨c0, c1, c2, c3⟩ := box4 bx1.out
  go_wp2_with fail
  refine (H4.out ⟨KA, Kn, Kc⟩ ⟨SA, Sn, Sc⟩ _ HV2.out (HT.out.up HB1.out)).mono ?_
  rintro E w2 ⟨rfl, hb2⟩
  have HB2 := Lib.hid (bon HB1.out hb2)
  have HV3 := Lib.hid (HV2.out.up hb2)
  have bx2 := Lib.hid (bx1.out.up hb2)
  clear hb2 HV2 bx1 HB1 c0 c1 c2 c3 H4
  simp only
  go_wp2_with fail
  refine (H2.out _ (HT.out.up HB2.out)).mono ?_
  rintro E w3 ⟨K2, S2, rfl, _, hb3⟩
  have HB3 := Lib.hid (bon HB2.out hb3)
  have HV4 := Lib.hid (HV3.out.up hb3)
  have bx3 := Lib.hid (bx2.out.up hb3)
  clear hb3 HV3 bx2 HB2 H2
  obtain ⟨KA2, Kn2, Kc2⟩ := K2
  obtain ⟨SA2, Sn2, Sc2⟩ := S2
  simp only [jx, Jv.zero, Jv.k, Jv.t]
  go_upto_region 4 with fail
  have hb4 := Lib.hid (ba1 w3 (.cells #[.int .i64 0, .string (tb []), .slice KA2 Kn2 Kc2, .slice SA2 Sn2 Sc2] 25))
  have bx4 := Lib.hid (Box.new w3 25 #[.int .i64 0, .string (tb []), .slice KA2 Kn2 Kc2, .slice SA2 Sn2 Sc2])
  obtain ⟨g2, hg2⟩ : ∃ g2, w3.heap.size = g2 := ⟨_, rfl⟩
  rw [hg2] at bx4 ⊢
  clear hg2
  generalize w3.alloc (.cells #[.int .i64 0, .string (tb []), .slice KA2 Kn2 Kc2, .slice SA2 Sn2 Sc2] 25) = W4 at *
  have HB4 := Lib.hid (bon HB3.out hb4.out)
  have HV5 := Lib.hid (HV4.out.up hb4.out)
  have bx5 := Lib.hid (bx3.out.up hb4.out)
  clear hb4 HV4 bx3 bx4 HB3
  go_wp2_with fail
  refine (H3.out _ (HT.out.up HB4.out)).mono ?_
  rintro E w5 ⟨K3, S3, rfl, _, hb5⟩
  have HB5 := Lib.hid (bon HB4.out hb5)
  have HV6 := Lib.hid (HV5.out.up hb5)
  have bx6 := Lib.hid (bx5.out.up hb5)
  clear hb5 HV5 bx5 HB4 H3
  obtain ⟨KA3, Kn3, Kc3⟩ := K3
  obtain ⟨SA3, Sn3, Sc3⟩ := S3
  simp only [jx, Jv.zero, Jv.k, Jv.t]
  go_upto_region 5 with fail
  have hb7 := Lib.hid (ba1 w5 (.cells #[.int .i64 0, .string (tb []), .slice KA3 Kn3 Kc3, .slice SA3 Sn3 Sc3] 25))
  have bx7 := Lib.hid (Box.new w5 25 #[.int .i64 0, .string (tb []), .slice KA3 Kn3 Kc3, .slice SA3 Sn3 Sc3])
  obtain ⟨g3, hg3⟩ : ∃ g3, w5.heap.size = g3 := ⟨_, rfl⟩
  rw [hg3] at bx7 ⊢
  clear hg3
  generalize w5.alloc (.cells #[.int .i64 0, .string (tb []), .slice KA3 Kn3 Kc3, .slice SA3 Sn3 Sc3] 25) = W7 at *
  have HB7 := Lib.hid (bon HB5.out hb7.out)
  have HV7 := Lib.hid (HV6.out.up hb7.out)
  have bx8 := Lib.hid (bx6.out.up hb7.out)
  clear hb7 HV6 bx6 bx7 HB5
  go_wp2_with fail
  refine (H5.out _ (HT.out.up HB7.out)).mono ?_
  rintro E w8 ⟨rfl, hb8⟩
  have HB8 := Lib.hid (bon HB7.out hb8)
  have HV8 := Lib.hid (HV7.out.up hb8)
  have bx9 := Lib.hid (bx8.out.up hb8)
  clear hb8 HV7 bx8 HB7 H5
  obtain ⟨c0, c1, c2, c3⟩ := box4 bx9.out
  simp only
  go_wp2_with fail
  refine (H6.out ⟨KA, Kn, Kc⟩ ⟨SA, Sn, Sc⟩ _ HV8.out (HT.out.up HB8.out)).mono ?_
  rintro E w9 ⟨rfl, hb9⟩
  have HB9 := Lib.hid (bon HB8.out hb9)
  have HV9 := Lib.hid (HV8.out.up hb9)
  have bx10 := Lib.hid (bx9.out.up hb9)
  clear hb9 HV8 bx9 HB8 H6 c0 c1 c2 c3
  obtain ⟨c0, c1, c2, c3⟩ := box4 bx10.out
  go_wp2_with fail
  refine (H7.out ⟨KA, Kn, Kc⟩ ⟨SA, Sn, Sc⟩ _ HV9.out (HT.out.up HB9.out)).mono ?_
  rintro E w10 ⟨rfl, hb10⟩
  have HB10 := Lib.hid (bon HB9.out hb10)
  have HV10 := Lib.hid (HV9.out.up hb10)
  have bx11 := Lib.hid (bx10.out.up hb10)
  clear hb10 HV9 bx10 HB9 H7 c0 c1 c2 c3
  obtain ⟨c0, c1, c2, c3⟩ := box4 bx11.out
  go_wp2_with fail
  refine (H8.out ⟨KA, Kn, Kc⟩ ⟨SA, Sn, Sc⟩ _ HV10.out (HT.out.up HB10.out)).mono ?_
  rintro E w11 ⟨rfl, hb11⟩
  have HB11 := bon HB10.out hb11
  go_wp2
  go_ret
  exact ⟨by first | rfl | simp, HB11⟩
end Go.Proofs.YtnkhghjcfhpeiaaGreatDoor

/-
  The walk of the laws' own Pieces.
-/
namespace Go.Proofs.YtnkhghjcfhpeiaaGreatDoor
open Go.RowKit
def pcsJ : List ByteArray := [⟨#[123]⟩, ⟨#[125]⟩, ⟨#[91]⟩, ⟨#[93]⟩, ⟨#[44]⟩, ⟨#[58]⟩, ⟨#[34, 97, 34]⟩, ⟨#[34, 98, 34]⟩, ⟨#[34]⟩, ⟨#[49]⟩, ⟨#[48]⟩, ⟨#[45]⟩, ⟨#[49, 46, 53, 101, 51]⟩, ⟨#[116, 114, 117, 101]⟩, ⟨#[110, 117, 108, 108]⟩, ⟨#[102, 97, 108, 115, 101]⟩, ⟨#[32]⟩, ⟨#[10]⟩, ⟨#[116, 114, 117]⟩, ⟨#[46]⟩, ⟨#[101]⟩, ⟨#[92]⟩, ⟨#[48, 49]⟩, ⟨#[34, 92, 117, 48, 48, 101, 52, 34]⟩, ⟨#[0]⟩, ⟨#[34, 97, 34, 58, 49]⟩, ⟨#[91, 49, 44, 50, 93]⟩, ⟨#[123, 125]⟩]
theorem pcsJ_le : ∀ x ∈ pcsJ, x.size ≤ 8 := by decide +kernel
theorem lit_cellJ {W : World} {g : Nat} {xs : List ByteArray} (h : Box W g 9 (svs xs).toArray) {p : Nat} (hp : p < xs.length) : ∃ x, x ∈ xs ∧ W.cell? ⟨g, p, none⟩ = some (.string x) := by
  refine ⟨xs[p], List.getElem_mem _, ?_⟩
  refine h.c p ?_
  simp [svs, hp]
/-- a text of few pieces is handed back -/
def PcJEnds (w : World) (e : Ending) (w' : World) : Prop := ∃ s : Bs, e = .returned (.string (tb s)) ∧ s.length ≤ 128 ∧ Below w.heap.size w w'

set_option maxRecDepth 100000 in
set_option maxHeartbeats 2000000 in
theorem piecesJ_any (A : Option Addr) (len cap : Nat) (ys : List UInt8) (w : World) (hl : ys.length = len) (hm : len ≤ maxLen) (hU : Us w w.heap.size A ys) : Calls Tryz.prog 15 #[.slice A len cap] w (PcJEnds w) := by
  unfold maxLen at hm
  have HL := Lib.hid hl
  have HU := Lib.hid hU
  have HS : Hid (Box (w.alloc (.cells #[.string ⟨#[123]⟩, .string ⟨#[125]⟩, .string ⟨#[91]⟩, .string ⟨#[93]⟩, .string ⟨#[44]⟩, .string ⟨#[58]⟩, .string ⟨#[34, 97, 34]⟩, .string ⟨#[34, 98, 34]⟩, .string ⟨#[34]⟩, .string ⟨#[49]⟩, .string ⟨#[48]⟩, .string ⟨#[45]⟩, .string ⟨#[49, 46, 53, 101, 51]⟩, .string ⟨#[116, 114, 117, 101]⟩, .string ⟨#[110, 117, 108, 108]⟩, .string ⟨#[102, 97, 108, 115, 101]⟩, .string ⟨#[32]⟩, .string ⟨#[10]⟩, .string ⟨#[116, 114, 117]⟩, .string ⟨#[46]⟩, .string ⟨#[101]⟩, .string ⟨#[92]⟩, .string ⟨#[48, 49]⟩, .string ⟨#[34, 92, 117, 48, 48, 101, 52, 34]⟩, .string ⟨#[0]⟩, .string ⟨#[34, 97, 34, 58, 49]⟩, .string ⟨#[91, 49, 44, 50, 93]⟩, .string ⟨#[123, 125]⟩] 9)) w.heap.size 9 (svs pcsJ).toArray) := Lib.hid (Box.new w 9 #[.string ⟨#[123]⟩, .string ⟨#[125]⟩, .string ⟨#[91]⟩, .string ⟨#[93]⟩, .string ⟨#[44]⟩, .string ⟨#[58]⟩, .string ⟨#[34, 97, 34]⟩, .string ⟨#[34, 98, 34]⟩, .string ⟨#[34]⟩, .string ⟨#[49]⟩, .string ⟨#[48]⟩, .string ⟨#[45]⟩, .string ⟨#[49, 46, 53, 101, 51]⟩, .string ⟨#[116, 114, 117, 101]⟩, .string ⟨#[110, 117, 108, 108]⟩, .string ⟨#[102, 97, 108, 115, 101]⟩, .string ⟨#[32]⟩, .string ⟨#[10]⟩, .string ⟨#[116, 114, 117]⟩, .string ⟨#[46]⟩, .string ⟨#[101]⟩, .string ⟨#[92]⟩, .string ⟨#[48, 49]⟩, .string ⟨#[34, 92, 117, 48, 48, 101, 52, 34]⟩, .string ⟨#[0]⟩, .string ⟨#[34, 97, 34, 58, 49]⟩, .string ⟨#[91, 49, 44, 50, 93]⟩, .string ⟨#[123, 125]⟩])
  clear hl hU
  go_enter Tryz.func15, Tryz.ntmps15
  go_wp2_with fail
  have hb0 := ba1 w (.cells #[.string ⟨#[123]⟩, .string ⟨#[125]⟩, .string ⟨#[91]⟩, .string ⟨#[93]⟩, .string ⟨#[44]⟩, .string ⟨#[58]⟩, .string ⟨#[34, 97, 34]⟩, .string ⟨#[34, 98, 34]⟩, .string ⟨#[34]⟩, .string ⟨#[49]⟩, .string ⟨#[48]⟩, .string ⟨#[45]⟩, .string ⟨#[49, 46, 53, 101, 51]⟩, .string ⟨#[116, 114, 117, 101]⟩, .string ⟨#[110, 117, 108, 108]⟩, .string ⟨#[102, 97, 108, 115, 101]⟩, .string ⟨#[32]⟩, .string ⟨#[10]⟩, .string ⟨#[116, 114, 117]⟩, .string ⟨#[46]⟩, .string ⟨#[101]⟩, .string ⟨#[92]⟩, .string ⟨#[48, 49]⟩, .string ⟨#[34, 92, 117, 48, 48, 101, 52, 34]⟩, .string ⟨#[0]⟩, .string ⟨#[34, 97, 34, 58, 49]⟩, .string ⟨#[91, 49, 44, 50, 93]⟩, .string ⟨#[123, 125]⟩] 9)
  obtain ⟨g, hg⟩ : ∃ g, w.heap.size = g := ⟨_, rfl⟩
  rw [hg] at HS ⊢
  clear hg
  generalize w.alloc (.cells #[.string ⟨#[123]⟩, .string ⟨#[125]⟩, .string ⟨#[91]⟩, .string ⟨#[93]⟩, .string ⟨#[44]⟩, .string ⟨#[58]⟩, .string ⟨#[34, 97, 34]⟩, .string ⟨#[34, 98, 34]⟩, .string ⟨#[34]⟩, .string ⟨#[49]⟩, .string ⟨#[48]⟩, .string ⟨#[45]⟩, .string ⟨#[49, 46, 53, 101, 51]⟩, .string ⟨#[116, 114, 117, 101]⟩, .string ⟨#[110, 117, 108, 108]⟩, .string ⟨#[102, 97, 108, 115, 101]⟩, .string ⟨#[32]⟩, .string ⟨#[10]⟩, .string ⟨#[116, 114, 117]⟩, .string ⟨#[46]⟩, .string ⟨#[101]⟩, .string ⟨#[92]⟩, .string ⟨#[48, 49]⟩, .string ⟨#[34, 92, 117, 48, 48, 101, 52, 34]⟩, .string ⟨#[0]⟩, .string ⟨#[34, 97, 34, 58, 49]⟩, .string ⟨#[91, 49, 44, 50, 93]⟩, .string ⟨#[123, 125]⟩] 9) = W at *
  go_loopw [5, 4] (fun i v wr => ∃ (k : Nat) (t : ByteArray), k ≤ len ∧ k ≤ 16 ∧ i = .int .i64 (k : Int) ∧ v = .string t ∧ t.size ≤ 8 * k ∧ W = wr) (fun i _ _ => 16 - (intOf i).toNat)
  case atStart => exact ⟨0, ⟨#[]⟩, Nat.zero_le _, Nat.zero_le _, rfl, rfl, Nat.le_refl _, rfl⟩
  case round =>
    obtain ⟨k, t, hk, hk16, rfl, rfl, ht, rfl⟩ := hrel
    by_cases hlt : k < len ∧ k < 16
    · obtain ⟨h1, h2⟩ := hlt
      obtain ⟨b, o, hA, hb, hc⟩ := (HU.out.low hb0) (by rw [HL.out]; omega)
      have c1 := hc k (by rw [HL.out]; omega)
      clear hc
      obtain ⟨y, hy⟩ : ∃ y, ys[k]?.getD 0 = y := ⟨_, rfl⟩
      rw [hy] at c1
      have hyb := y.toNat_lt
      clear hy
      obtain ⟨n, hn⟩ : ∃ n, y.toNat = n := ⟨_, rfl⟩
      rw [hn] at c1 hyb
      clear hn
      subst hA
      obtain ⟨r, hr⟩ : ∃ r, n % 28 = r := ⟨_, rfl⟩
      have hr18 : r < 28 := by omega
      have t1 : IntKind.i64.wrap (n : Int) = (n : Int) := IntWalk.i64_in _ (by omega)
      have t2 : (n : Int).tmod 28 = (r : Int) := by rw [Int.tmod_eq_emod_of_nonneg (by omega), ← hr]; simp
      have t3 : (n : Int) % 28 = (r : Int) := by rw [← hr]; simp
      have t4 : IntKind.i64.wrap (r : Int) = (r : Int) := IntWalk.i64_in _ (by omega)
      clear hr
      obtain ⟨x, hx, c2⟩ := lit_cellJ (xs := pcsJ) HS.out (p := r) hr18
      have hxs := pcsJ_le x hx
      clear hx
      have hsz : (t ++ x).size = t.size + x.size := ByteArray.size_append
      go_wp2
      go_roundw
      case rel => exact ⟨k + 1, t ++ x, by omega, by omega, by go_num, rfl, by omega, trivial⟩
      case measure => simp [intOf]; omega
    · have hcase : ¬ k < len ∨ (k < len ∧ ¬ k < 16) := by omega
      clear hlt
      rcases hcase with h1 | ⟨h1, h2⟩
      all_goals
        go_wp2
        go_ret
        exact ⟨dl t, by rw [tb_dl]; rfl, by rw [dl_len]; omega, hb0⟩

end Go.Proofs.YtnkhghjcfhpeiaaGreatDoor
