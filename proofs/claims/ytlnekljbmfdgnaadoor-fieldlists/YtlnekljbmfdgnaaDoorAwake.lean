/-
  The walk of the law's own awake: what any right program answers.
-/
import Derived.Test.YtlnekljbmfdgnaaDoorSame
namespace Go.Proofs.YtlnekljbmfdgnaaDoor
open Go.RowKit

/-- a text, of its bytes -/
abbrev tx (l : Bs) : ByteArray := ⟨l.toArray⟩
theorem Ss.new (w : World) (xs : List ByteArray) (n : Nat) (hn : xs.length = n) (hm : n ≤ 4096) : Ss (w.alloc (.cells (svs xs).toArray 9)) ⟨some ⟨w.heap.size, 0, none⟩, n, n⟩ xs where
  len := hn
  rd _ := ⟨w.heap.size, 0, rfl, by simp, fun j u hu => by rw [Nat.zero_add]; exact (Box.new w 9 (svs xs).toArray).c j (by simpa using hu)⟩
  cap h := by cases h
  le := ⟨Nat.le_refl _, by unfold maxLen; simp only; omega⟩
theorem Fs.new (w : World) (xs : List Fd) (n : Nat) (hn : xs.length = n) (hm : n ≤ 4096) : Fs (w.alloc (.cells (fvs xs).toArray 32)) ⟨some ⟨w.heap.size, 0, none⟩, n, n⟩ xs where
  len := hn
  rd _ := ⟨w.heap.size, 0, rfl, by simp, fun j u hu => by rw [Nat.zero_add]; exact (Box.new w 32 (fvs xs).toArray).c j (by simpa using hu)⟩
  cap h := by cases h
  le := ⟨Nat.le_refl _, by unfold maxLen; simp only; omega⟩
/-- a text told by its bytes -/
theorem tx_of {s : ByteArray} {l : Bs} (h : dl s = l) : s = tx l := dl_inj (h.trans (dl_mk l).symm)
theorem txs_of {xs : List ByteArray} {ls : List Bs} (h : xs.map dl = ls) : xs = ls.map tx := map_dl_inj (by rw [h, List.map_map]; exact (List.map_id' ls).symm.trans (List.map_congr_left fun l _ => (dl_mk l).symm))

theorem aw1 : parse3 [65, 99, 99, 101, 112, 116, 58, 32, 32, 97, 44, 32, 66, 32, 44, 44, 99, 32] = ([65, 99, 99, 101, 112, 116], [97, 44, 32, 66, 32, 44, 44, 99], 0) := by decide +kernel
theorem aw2 : parse3 [97, 32, 98, 58, 32, 99] = ([], [], 21) := by decide +kernel
theorem aw3 : itemsL [97, 44, 32, 66, 32, 44, 44, 99] = [[97], [98], [99]] := by decide +kernel
/-- the three fields -/
def awF : List Fd := [(tx [65, 99, 99, 101, 112, 116], tx [97, 44, 32, 66, 32, 44, 44, 99]), (tx [120], tx [49]), (tx [65, 67, 67, 69, 80, 84], tx [100])]
theorem aw4 : getL awF (tx [97, 99, 99, 101, 112, 116]) = [tx [97, 44, 32, 66, 32, 44, 44, 99], tx [100]] := by decide +kernel
theorem aw5 : (dropL awF [tx [97, 99, 99, 101, 112, 116], tx [121]]).length = 1 := by decide +kernel
theorem aw6 : nameB [97, 45, 98] = true := by decide +kernel
theorem aw7 : nameB [] = false := by decide +kernel
theorem aw8 : valueB [97, 32, 98] = true := by decide +kernel
theorem aw9 : valueB [32, 97] = false := by decide +kernel
theorem aw10 : lowerL [97, 66, 90, 91] = [97, 98, 122, 91] := by decide +kernel
theorem aw11 : trimL [32, 9, 97, 32] = [97] := by decide +kernel

set_option maxRecDepth 100000 in
set_option maxHeartbeats 8000000 in
theorem awake_any (w : World) : Calls Tryd.prog 9 #[] w (BoolEnds true w) := by
  have H1 : Hid (∀ W, Calls Tryd.prog 18 #[.string ⟨#[65, 99, 99, 101, 112, 116, 58, 32, 32, 97, 44, 32, 66, 32, 44, 44, 99, 32]⟩] W fun e w' => e = .returned (.tuple #[.agg #[.string ⟨#[65, 99, 99, 101, 112, 116]⟩, .string ⟨#[97, 44, 32, 66, 32, 44, 44, 99]⟩], .int .i64 0]) ∧ Below W.heap.size W w') := Lib.hid (fun W => by
    refine (parse_any ⟨#[65, 99, 99, 101, 112, 116, 58, 32, 32, 97, 44, 32, 66, 32, 44, 44, 99, 32]⟩ (by decide) W).mono ?_
    rintro e w' ⟨a, b, c, rfl, ha, hb, hc, hbb⟩
    rw [show dl ⟨#[65, 99, 99, 101, 112, 116, 58, 32, 32, 97, 44, 32, 66, 32, 44, 44, 99, 32]⟩ = [65, 99, 99, 101, 112, 116, 58, 32, 32, 97, 44, 32, 66, 32, 44, 44, 99, 32] from rfl, aw1] at ha hb hc
    rw [tx_of ha, tx_of hb, hc]
    exact ⟨rfl, hbb⟩)
  have H2 : Hid (∀ W, Calls Tryd.prog 18 #[.string ⟨#[97, 32, 98, 58, 32, 99]⟩] W fun e w' => e = .returned (.tuple #[.agg #[.string ⟨#[]⟩, .string ⟨#[]⟩], .int .i64 21]) ∧ Below W.heap.size W w') := Lib.hid (fun W => by
    refine (parse_any ⟨#[97, 32, 98, 58, 32, 99]⟩ (by decide) W).mono ?_
    rintro e w' ⟨a, b, c, rfl, ha, hb, hc, hbb⟩
    rw [show dl ⟨#[97, 32, 98, 58, 32, 99]⟩ = [97, 32, 98, 58, 32, 99] from rfl, aw2] at ha hb hc
    rw [tx_of ha, tx_of hb, hc]
    exact ⟨rfl, hbb⟩)
  have H3 : Hid (∀ W, Calls Tryd.prog 23 #[.string ⟨#[97, 44, 32, 66, 32, 44, 44, 99]⟩] W (SsEnds [tx [97], tx [98], tx [99]] W)) := Lib.hid (fun W => by
    refine (items_any ⟨#[97, 44, 32, 66, 32, 44, 44, 99]⟩ (by decide) W).mono ?_
    rintro e w' ⟨s, xs, rfl, hx, hs, hbb⟩
    rw [show dl ⟨#[97, 44, 32, 66, 32, 44, 44, 99]⟩ = [97, 44, 32, 66, 32, 44, 44, 99] from rfl, aw3] at hx
    rw [txs_of hx] at hs
    exact ⟨s, rfl, hs, hbb⟩)
  have H6 : Hid (∀ W, Calls Tryd.prog 19 #[.string ⟨#[97, 45, 98]⟩] W fun e w' => e = .returned (.bool true) ∧ w' = W) := Lib.hid (fun W => by
    have := name_any ⟨#[97, 45, 98]⟩ (by decide) W
    rw [show nameB (dl ⟨#[97, 45, 98]⟩) = true from aw6] at this
    exact this)
  have H7 : Hid (∀ W, Calls Tryd.prog 19 #[.string ⟨#[]⟩] W fun e w' => e = .returned (.bool false) ∧ w' = W) := Lib.hid (fun W => by
    have := name_any ⟨#[]⟩ (by decide) W
    rw [show nameB (dl ⟨#[]⟩) = false from aw7] at this
    exact this)
  have H8 : Hid (∀ W, Calls Tryd.prog 20 #[.string ⟨#[97, 32, 98]⟩] W (BoolEnds true W)) := Lib.hid (fun W => by
    have := value_any ⟨#[97, 32, 98]⟩ (by decide) W
    rw [show valueB (dl ⟨#[97, 32, 98]⟩) = true from aw8] at this
    exact this)
  have H9 : Hid (∀ W, Calls Tryd.prog 20 #[.string ⟨#[32, 97]⟩] W (BoolEnds false W)) := Lib.hid (fun W => by
    have := value_any ⟨#[32, 97]⟩ (by decide) W
    rw [show valueB (dl ⟨#[32, 97]⟩) = false from aw9] at this
    exact this)
  have H10 : Hid (∀ W, Calls Tryd.prog 21 #[.string ⟨#[97, 66, 90, 91]⟩] W fun e w' => e = .returned (.string ⟨#[97, 98, 122, 91]⟩) ∧ Below W.heap.size W w') := Lib.hid (fun W => by
    refine (lower_any ⟨#[97, 66, 90, 91]⟩ (by decide) W).mono ?_
    rintro e w' ⟨s, rfl, hs, hbb⟩
    rw [tx_of (hs.trans aw10)]
    exact ⟨rfl, hbb⟩)
  have H11 : Hid (∀ W, Calls Tryd.prog 22 #[.string ⟨#[32, 9, 97, 32]⟩] W fun e w' => e = .returned (.string ⟨#[97]⟩) ∧ Below W.heap.size W w') := Lib.hid (fun W => by
    refine (trim_any ⟨#[32, 9, 97, 32]⟩ (by decide) W).mono ?_
    rintro e w' ⟨s, rfl, hs, hbb⟩
    rw [tx_of (hs.trans aw11)]
    exact ⟨rfl, hbb⟩)
  have H4 : Hid (∀ L W, Fs W L awF → L.n = 3 → Calls Tryd.prog 13 #[.slice L.A L.n L.c, .string ⟨#[97, 99, 99, 101, 112, 116]⟩] W (SsEnds [tx [97, 44, 32, 66, 32, 44, 44, 99], tx [100]] W)) := Lib.hid (fun L W hL hn => by
    have := get_any L awF (tx [97, 99, 99, 101, 112, 116]) W hL (by omega) (by decide) (by decide)
    rw [aw4] at this
    exact this)
  have H5 : Hid (∀ L N W, Fs W L awF → L.n = 3 → Ss W N [tx [97, 99, 99, 101, 112, 116], tx [121]] → N.n = 2 → Calls Tryd.prog 16 #[.slice L.A L.n L.c, .slice N.A N.n N.c] W fun e w' => ∃ A c, e = .returned (.slice A 1 c) ∧ Below W.heap.size W w') := Lib.hid (fun L N W hL hn hN hm => by
    refine (drop_any L N awF _ W hL hN (by omega) (by omega) (by decide) (by decide)).mono ?_
    rintro e w' ⟨s, rfl, hs, hbb⟩
    have := hs.len
    rw [aw5] at this
    rw [← this]
    exact ⟨_, _, rfl, hbb⟩)
  go_enter Tryd.func9, Tryd.ntmps9
  go_wp2_with fail
  refine (H1.out _).mono ?_
  rintro e w1 ⟨rfl, hb1⟩
  go_wp2_with fail
  refine (H2.out _).mono ?_
  rintro e w2 ⟨rfl, hb2⟩
  have x1 := ((Box.new w1 32 #[.string ⟨#[65, 99, 99, 101, 112, 116]⟩, .string ⟨#[97, 44, 32, 66, 32, 44, 44, 99]⟩]).up hb2).alloc (.cells #[.string ⟨#[]⟩, .string ⟨#[]⟩] 32)
  have hbA := bon (bon (bon hb1 (ba1 w1 _)) hb2) (ba1 w2 (.cells #[.string ⟨#[]⟩, .string ⟨#[]⟩] 32))
  clear hb1 hb2
  obtain ⟨g1, hg1⟩ : ∃ g, w1.heap.size = g := ⟨_, rfl⟩
  rw [hg1] at x1 ⊢
  clear hg1
  obtain ⟨p0, p1, _, _⟩ := x1.two
  have hF : Fs ((w2.alloc (.cells #[.string ⟨#[]⟩, .string ⟨#[]⟩] 32)).alloc (.cells #[.string ⟨#[65, 99, 99, 101, 112, 116]⟩, .string ⟨#[97, 44, 32, 66, 32, 44, 44, 99]⟩, .string ⟨#[120]⟩, .string ⟨#[49]⟩, .string ⟨#[65, 67, 67, 69, 80, 84]⟩, .string ⟨#[100]⟩] 32)) ⟨some ⟨(w2.alloc (.cells #[.string ⟨#[]⟩, .string ⟨#[]⟩] 32)).heap.size, 0, none⟩, 3, 3⟩ awF := Fs.new (w2.alloc (.cells #[.string ⟨#[]⟩, .string ⟨#[]⟩] 32)) awF 3 rfl (by decide)
  have x2 := x1.alloc (.cells #[.string ⟨#[65, 99, 99, 101, 112, 116]⟩, .string ⟨#[97, 44, 32, 66, 32, 44, 44, 99]⟩, .string ⟨#[120]⟩, .string ⟨#[49]⟩, .string ⟨#[65, 67, 67, 69, 80, 84]⟩, .string ⟨#[100]⟩] 32)
  obtain ⟨q0, q1, _, _⟩ := x2.two
  have HF := Lib.hid hF
  have HB := Lib.hid (bon hbA (ba1 (w2.alloc (.cells #[.string ⟨#[]⟩, .string ⟨#[]⟩] 32)) (.cells #[.string ⟨#[65, 99, 99, 101, 112, 116]⟩, .string ⟨#[97, 44, 32, 66, 32, 44, 44, 99]⟩, .string ⟨#[120]⟩, .string ⟨#[49]⟩, .string ⟨#[65, 67, 67, 69, 80, 84]⟩, .string ⟨#[100]⟩] 32)))
  clear hF hbA x1 x2
  go_wp2_with fail
  refine (H3.out _).mono ?_
  rintro e w4 ⟨S, rfl, hS, hb4⟩
  have HF4 := Lib.hid (HF.out.up hb4)
  have HB4 := Lib.hid (bon HB.out hb4)
  have hsz : (w2.alloc (.cells #[.string ⟨#[]⟩, .string ⟨#[]⟩] 32)).heap.size = w2.heap.size + 1 := by simp
  rw [hsz] at HF4
  generalize w2.heap.size + 1 = gl at *
  clear HF HB hb4 hsz p0 p1 q0 q1 H1 H2 H3
  have HSt := Lib.hid (strings_same S ⟨some ⟨w4.heap.size, 0, none⟩, 3, 3⟩ [tx [97], tx [98], tx [99]] (w4.alloc (.cells #[.string ⟨#[97]⟩, .string ⟨#[98]⟩, .string ⟨#[99]⟩] 9)) (hS.up (ba1 _ _)) (Ss.new w4 [tx [97], tx [98], tx [99]] 3 rfl (by decide)))
  simp only [Sli.v] at HSt
  have HF5 := Lib.hid (HF4.out.up (ba1 w4 (.cells #[.string ⟨#[97]⟩, .string ⟨#[98]⟩, .string ⟨#[99]⟩] 9)))
  have HB5 := Lib.hid (bon HB4.out (ba1 w4 (.cells #[.string ⟨#[97]⟩, .string ⟨#[98]⟩, .string ⟨#[99]⟩] 9)))
  clear hS HF4 HB4
  go_wp2_with fail
  refine HSt.out.mono ?_
  rintro e w5 ⟨rfl, hb5⟩
  have HF6 := Lib.hid (HF5.out.up hb5)
  have HB6 := Lib.hid (bon HB5.out hb5)
  clear HF5 HB5 hb5 HSt
  go_wp2_with fail
  refine (H4.out ⟨some ⟨gl, 0, none⟩, 3, 3⟩ _ HF6.out rfl).mono ?_
  rintro e w6 ⟨S6, rfl, hS6, hb6⟩
  have HSt := Lib.hid (strings_same S6 ⟨some ⟨w6.heap.size, 0, none⟩, 2, 2⟩ [tx [97, 44, 32, 66, 32, 44, 44, 99], tx [100]] (w6.alloc (.cells #[.string ⟨#[97, 44, 32, 66, 32, 44, 44, 99]⟩, .string ⟨#[100]⟩] 9)) (hS6.up (ba1 _ _)) (Ss.new w6 [tx [97, 44, 32, 66, 32, 44, 44, 99], tx [100]] 2 rfl (by decide)))
  simp only [Sli.v] at HSt
  have HF7 := Lib.hid (HF6.out.up (bon hb6 (ba1 w6 (.cells #[.string ⟨#[97, 44, 32, 66, 32, 44, 44, 99]⟩, .string ⟨#[100]⟩] 9))))
  have HB7 := Lib.hid (bon HB6.out (bon hb6 (ba1 w6 (.cells #[.string ⟨#[97, 44, 32, 66, 32, 44, 44, 99]⟩, .string ⟨#[100]⟩] 9))))
  clear hS6 HF6 HB6 hb6 H4
  go_wp2_with fail
  refine HSt.out.mono ?_
  rintro e w7 ⟨rfl, hb7⟩
  have HF8 := Lib.hid (HF7.out.up (bon hb7 (ba1 w7 (.cells #[.string ⟨#[97, 99, 99, 101, 112, 116]⟩, .string ⟨#[121]⟩] 9))))
  have HB8 := Lib.hid (bon HB7.out (bon hb7 (ba1 w7 (.cells #[.string ⟨#[97, 99, 99, 101, 112, 116]⟩, .string ⟨#[121]⟩] 9))))
  have HN8 := Lib.hid (Ss.new w7 [tx [97, 99, 99, 101, 112, 116], tx [121]] 2 rfl (by decide))
  clear HF7 HB7 hb7 HSt
  go_wp2_with fail
  refine (H5.out ⟨some ⟨gl, 0, none⟩, 3, 3⟩ ⟨some ⟨w7.heap.size, 0, none⟩, 2, 2⟩ _ HF8.out rfl HN8.out rfl).mono ?_
  rintro e w8 ⟨A8, c8, rfl, hb8⟩
  have HB9 := Lib.hid (bon HB8.out hb8)
  clear HF8 HB8 HN8 hb8 H5
  go_wp2_with fail
  refine (H6.out _).mono ?_
  rintro e w9 ⟨rfl, rfl⟩
  go_wp2_with fail
  refine (H7.out _).mono ?_
  rintro e w9 ⟨rfl, rfl⟩
  go_wp2_with fail
  refine (H8.out _).mono ?_
  rintro e w9 ⟨rfl, hb9⟩
  go_wp2_with fail
  refine (H9.out _).mono ?_
  rintro e w10 ⟨rfl, hb10⟩
  go_wp2_with fail
  refine (H10.out _).mono ?_
  rintro e w11 ⟨rfl, hb11⟩
  go_wp2_with fail
  refine (H11.out _).mono ?_
  rintro e w12 ⟨rfl, hb12⟩
  go_wp2
  go_ret
  exact ⟨by rfl, bon (bon (bon (bon HB9.out hb9) hb10) hb11) hb12⟩

end Go.Proofs.YtlnekljbmfdgnaaDoor
