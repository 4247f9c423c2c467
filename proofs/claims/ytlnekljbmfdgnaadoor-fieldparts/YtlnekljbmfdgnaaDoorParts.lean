/-
  The walk of the law FieldParts: items of two texts, one behind the other, are those of both.
-/
import Derived.Test.YtlnekljbmfdgnaaDoorPieces
namespace Go.Proofs.YtlnekljbmfdgnaaDoor
open Go.RowKit

theorem pg (a b c : ByteArray) : getL [(tx [65], a), (tx [98], b), (tx [97], c)] (tx [65]) = [a, c] := by rfl
theorem pd1 (a b c : ByteArray) : dropL [(tx [65], a), (tx [98], b), (tx [97], c)] [tx [97]] = [(tx [98], b)] := by rfl
theorem pd2 (a b c : ByteArray) : dropL [(tx [65], a), (tx [98], b), (tx [97], c)] [tx [65], tx [66]] = [] := by rfl
theorem f3_le (a b c : ByteArray) : ∀ f ∈ [((tx [65] : ByteArray), a), (tx [98], b), (tx [97], c)], f.1.size ≤ 4096 := by
  intro f hf
  simp only [List.mem_cons, List.not_mem_nil, or_false] at hf
  rcases hf with rfl | rfl | rfl
  · exact (by decide : (tx [65]).size ≤ 4096)
  · exact (by decide : (tx [98]).size ≤ 4096)
  · exact (by decide : (tx [97]).size ≤ 4096)

set_option maxRecDepth 100000 in
set_option maxHeartbeats 8000000 in
theorem partsL_any (A : Option Addr) (len cap : Nat) (ys : List UInt8) (A2 : Option Addr) (len2 cap2 : Nat) (zs : List UInt8) (w : World) (hl : ys.length = len) (hm : len ≤ maxLen) (hU : Us w A ys) (hl2 : zs.length = len2) (hm2 : len2 ≤ maxLen) (hU2 : Us w A2 zs) :
    Calls Tryd.prog 8 #[.slice A len cap, .slice A2 len2 cap2] w (BoolEnds true w) := by
  obtain ⟨i9, hi, hz0, hz1, hz2⟩ := info_parts info9
  have HP := Lib.hid (fun W (hb : Below w.heap.size w W) => pieces_any A len cap ys W hl hm (hU.up hb))
  have HP2 := Lib.hid (fun W (hb : Below w.heap.size w W) => pieces_any A2 len2 cap2 zs W hl2 hm2 (hU2.up hb))
  clear hl hm hU hl2 hm2 hU2
  go_enter Tryd.func8, Tryd.ntmps8
  go_wp2_with fail
  refine (awake_any _).mono ?_
  rintro e w1 ⟨rfl, hb1⟩
  go_wp2_with fail
  refine (HP.out _ hb1).mono ?_
  rintro e w2 ⟨a, rfl, ha, hb2⟩
  have hc2 := bon hb1 hb2
  go_wp2_with fail
  refine (HP2.out _ hc2).mono ?_
  rintro e w3 ⟨b, rfl, hb, hb3⟩
  have hc3 := bon hc2 hb3
  clear HP HP2 hb1 hb2 hb3 hc2
  have hk1 : (⟨#[44]⟩ : ByteArray).size = 1 := rfl
  have z1 : (a ++ (⟨#[44]⟩ : ByteArray)).size = a.size + 1 := by rw [ByteArray.size_append, hk1]
  have z2 : (a ++ (⟨#[44]⟩ : ByteArray) ++ b).size = a.size + 1 + b.size := by rw [ByteArray.size_append, z1]
  have HIt : Hid (∀ W, Calls Tryd.prog 23 #[.string (a ++ (⟨#[44]⟩ : ByteArray) ++ b)] W (StrsEnds (itemsL (dl a) ++ itemsL (dl b)) W)) := Lib.hid (fun W => by
    have := items_any (a ++ (⟨#[44]⟩ : ByteArray) ++ b) (by omega) W
    have hd : dl (a ++ (⟨#[44]⟩ : ByteArray) ++ b) = dl a ++ 44 :: dl b := by rw [dl_app, dl_app, List.append_assoc]; rfl
    rw [hd, items_app] at this
    exact this)
  have HIa := Lib.hid (fun W => items_any a (by omega) W)
  have HIb := Lib.hid (fun W => items_any b (by omega) W)
  go_wp2_with fail
  refine (HIt.out _).mono ?_
  rintro e w4 ⟨S, xs, rfl, hxs, hS, hb4⟩
  have hc4 := bon hc3 hb4
  have HXS := Lib.hid hxs
  have HS4 := Lib.hid hS
  clear hxs hS HIt hb4 hc3
  go_wp2_with fail
  refine (HIa.out _).mono ?_
  rintro e w5 ⟨Sa, xa, rfl, hxa, hSa, hb5⟩
  have hc5 := bon hc4 hb5
  have HXA := Lib.hid hxa
  have HS5 := Lib.hid (HS4.out.up hb5)
  have hna : Sa.n ≤ 4096 := by
    have h1 := items_len (dl a)
    rw [← hxa, List.length_map, dl_len, hSa.len] at h1
    omega
  have HSrcA := Lib.hid (Rd.src (sz := 1) (m := Sa.n) (c := Sa.c) (by decide) hSa.rd (by unfold svs; rw [List.length_map, hSa.len, Nat.mul_one]) hSa.cap)
  clear hxa hSa HS4 hb5 hc4
  go_wp2_with (at_builtin; refine wpList_app _ rfl _ _ 30 rfl w5.heap.size 9 i9 _ 1 16 (by decide) Tryd.underlying30 hi hz0 hz1 hz2 rfl (.slice none 0 0) 0 [] rfl (World.ownsRow_nil _ _ _ _) Sa.A Sa.n Sa.c (svs xa) rfl HSrcA.out (svs_one _) ?_ ?_ (Nat.le_refl _) Sa.n (Nat.zero_add _) ?_; (unfold maxLen; omega); omega; intro A' c' w6 h1 h2 h3; refine Hid.out ?_)
  have hb6 := grown_none h2
  have HO : Hid (Out 9 1 w5 w6 ⟨A', Sa.n, c'⟩ (svs xa)) := Lib.hid ⟨h1, hb6⟩
  have hc6 := bon hc5 hb6
  clear h1 h2 h3 HSrcA hb6
  refine Lib.hid ?_
  go_wp2_with fail
  refine (HIb.out _).mono ?_
  rintro e w7 ⟨Sb, xb, rfl, hxb, hSb, hb7⟩
  have hc7 := bon hc6 hb7
  have HXB := Lib.hid hxb
  have HO7 := Lib.hid (HO.out.up hb7)
  have hnb : Sb.n ≤ 4096 := by
    have h1 := items_len (dl b)
    rw [← hxb, List.length_map, dl_len, hSb.len] at h1
    omega
  have HSrcB := Lib.hid (Rd.src (sz := 1) (m := Sb.n) (c := Sb.c) (by decide) hSb.rd (by unfold svs; rw [List.length_map, hSb.len, Nat.mul_one]) hSb.cap)
  have hBw : w5.heap.size ≤ w7.heap.size := HO7.out.le
  clear hxb hSb HO hb7 hc6
  go_wp2_with (at_builtin; refine wpList_app _ rfl _ _ 30 rfl w5.heap.size 9 i9 _ 1 16 (by decide) Tryd.underlying30 hi hz0 hz1 hz2 rfl (.slice A' Sa.n c') Sa.n (svs xa) rfl HO7.out.row Sb.A Sb.n Sb.c (svs xb) rfl HSrcB.out (svs_one _) ?_ ?_ hBw (Sa.n + Sb.n) rfl ?_; (unfold maxLen; omega); omega; intro A2' c2' w8 h1 h2 h3; refine Hid.out ?_)
  have HO8 := Lib.hid (HO7.out.app (cs' := svs (xa ++ xb)) (by rw [svs, List.map_append]; exact h1) h2)
  have hXX : xs = xa ++ xb := map_dl_inj (by rw [HXS.out, List.map_append, HXA.out, HXB.out])
  have HS8 := Lib.hid (HS5.out.up HO8.out.hb)
  rw [hXX] at HS8
  have hc8 := bon hc5 HO8.out.hb
  have HR8 : Hid (Ss w8 ⟨A2', Sa.n + Sb.n, c2'⟩ (xa ++ xb)) := Lib.hid HO8.out.row.ss
  clear h1 h2 h3 HSrcB HO7 HO8 HS5 hBw hXX HXS hc5 hc7
  refine Lib.hid ?_
  have hF : Hid (Fs (w8.alloc (.cells #[.string ⟨#[65]⟩, .string a, .string ⟨#[98]⟩, .string b, .string ⟨#[97]⟩, .string b] 32)) ⟨some ⟨w8.heap.size, 0, none⟩, 3, 3⟩ [(tx [65], a), (tx [98], b), (tx [97], b)]) := Lib.hid (Fs.new w8 [(tx [65], a), (tx [98], b), (tx [97], b)] 3 rfl (by decide))
  have hc9 := bon hc8 (ba1 w8 (.cells #[.string ⟨#[65]⟩, .string a, .string ⟨#[98]⟩, .string b, .string ⟨#[97]⟩, .string b] 32))
  have HSt := Lib.hid (strings_same S ⟨A2', Sa.n + Sb.n, c2'⟩ (xa ++ xb) (w8.alloc (.cells #[.string ⟨#[65]⟩, .string a, .string ⟨#[98]⟩, .string b, .string ⟨#[97]⟩, .string b] 32)) (HS8.out.up (ba1 _ _)) (HR8.out.up (ba1 _ _)))
  simp only [Sli.v] at HSt
  clear HS8 HR8 hc8
  go_wp2_with fail
  refine HSt.out.mono ?_
  rintro e w9 ⟨rfl, hb9⟩
  have HF9 := Lib.hid (hF.out.up hb9)
  have hc10 := bon hc9 hb9
  generalize w8.heap.size = gk at *
  clear hF hb9 hc9 HSt
  have HGt : Hid (Calls Tryd.prog 13 #[.slice (some ⟨gk, 0, none⟩) 3 3, .string ⟨#[65]⟩] w9 fun e w' => ∃ A c, e = .returned (.slice A 2 c) ∧ Below w9.heap.size w9 w') := Lib.hid (by
    refine (get_any ⟨some ⟨gk, 0, none⟩, 3, 3⟩ [(tx [65], a), (tx [98], b), (tx [97], b)] (tx [65]) w9 HF9.out (show 3 ≤ 4096 by decide) (f3_le _ _ _) (by decide)).mono ?_
    rintro e w' ⟨s', rfl, hs', hbb⟩
    have hlen := hs'.len
    rw [pg] at hlen
    rw [← hlen]
    exact ⟨_, _, rfl, hbb⟩)
  go_wp2_with fail
  refine HGt.out.mono ?_
  rintro e w10 ⟨A10, c10, rfl, hb10⟩
  have HF10 := Lib.hid ((HF9.out.up hb10).up (ba1 w10 (.cells #[.string ⟨#[97]⟩] 9)))
  have hc11 := bon (bon hc10 hb10) (ba1 w10 (.cells #[.string ⟨#[97]⟩] 9))
  have HD1 : Hid (Calls Tryd.prog 16 #[.slice (some ⟨gk, 0, none⟩) 3 3, .slice (some ⟨w10.heap.size, 0, none⟩) 1 1] (w10.alloc (.cells #[.string ⟨#[97]⟩] 9)) fun e w' => ∃ A c, e = .returned (.slice A 1 c) ∧ Below (w10.alloc (.cells #[.string ⟨#[97]⟩] 9)).heap.size (w10.alloc (.cells #[.string ⟨#[97]⟩] 9)) w') := Lib.hid (by
    refine (drop_any ⟨some ⟨gk, 0, none⟩, 3, 3⟩ ⟨some ⟨w10.heap.size, 0, none⟩, 1, 1⟩ [(tx [65], a), (tx [98], b), (tx [97], b)] [tx [97]] _ HF10.out (Ss.new w10 [tx [97]] 1 rfl (by decide)) (show 3 ≤ 4096 by decide) (show 1 ≤ 4096 by decide) (f3_le _ _ _) (by decide)).mono ?_
    rintro e w' ⟨s', rfl, hs', hbb⟩
    have hlen := hs'.len
    rw [pd1] at hlen
    rw [← hlen]
    exact ⟨_, _, rfl, hbb⟩)
  clear HF9 hb10 hc10 HGt
  go_wp2_with fail
  refine HD1.out.mono ?_
  rintro e w11 ⟨A11, c11, rfl, hb11⟩
  have HF11 := Lib.hid ((HF10.out.up hb11).up (ba1 w11 (.cells #[.string ⟨#[65]⟩, .string ⟨#[66]⟩] 9)))
  have hc12 := bon (bon hc11 hb11) (ba1 w11 (.cells #[.string ⟨#[65]⟩, .string ⟨#[66]⟩] 9))
  have HD2 : Hid (Calls Tryd.prog 16 #[.slice (some ⟨gk, 0, none⟩) 3 3, .slice (some ⟨w11.heap.size, 0, none⟩) 2 2] (w11.alloc (.cells #[.string ⟨#[65]⟩, .string ⟨#[66]⟩] 9)) fun e w' => ∃ A c, e = .returned (.slice A 0 c) ∧ Below (w11.alloc (.cells #[.string ⟨#[65]⟩, .string ⟨#[66]⟩] 9)).heap.size (w11.alloc (.cells #[.string ⟨#[65]⟩, .string ⟨#[66]⟩] 9)) w') := Lib.hid (by
    refine (drop_any ⟨some ⟨gk, 0, none⟩, 3, 3⟩ ⟨some ⟨w11.heap.size, 0, none⟩, 2, 2⟩ [(tx [65], a), (tx [98], b), (tx [97], b)] [tx [65], tx [66]] _ HF11.out (Ss.new w11 [tx [65], tx [66]] 2 rfl (by decide)) (show 3 ≤ 4096 by decide) (show 2 ≤ 4096 by decide) (f3_le _ _ _) (by decide)).mono ?_
    rintro e w' ⟨s', rfl, hs', hbb⟩
    have hlen := hs'.len
    rw [pd2] at hlen
    rw [← hlen]
    exact ⟨_, _, rfl, hbb⟩)
  clear HF10 hb11 hc11 HD1
  go_wp2_with fail
  refine HD2.out.mono ?_
  rintro e w12 ⟨A12, c12, rfl, hb12⟩
  have hc13 := bon hc12 hb12
  clear HF11 hb12 hc12 HD2
  go_wp2_with fail
  refine (lower_any a (by omega) _).mono ?_
  rintro e w13 ⟨la, rfl, hla, hb13⟩
  have hlas : la.size ≤ 4096 := by
    have := low_len (dl a)
    rw [← hla, dl_len, dl_len] at this
    omega
  have HIl : Hid (∀ W, Calls Tryd.prog 23 #[.string la] W (StrsEnds (itemsL (dl a)) W)) := Lib.hid (fun W => by
    have := items_any la hlas W
    rw [hla, items_lower] at this
    exact this)
  clear hla
  go_wp2_with fail
  refine (HIl.out _).mono ?_
  rintro e w14 ⟨S1, x1, rfl, hx1, hS1, hb14⟩
  go_wp2_with fail
  refine (HIa.out _).mono ?_
  rintro e w15 ⟨S2, x2, rfl, hx2, hS2, hb15⟩
  obtain rfl : x1 = x2 := map_dl_inj (hx1.trans hx2.symm)
  have HSt := Lib.hid (strings_same S1 S2 x1 w15 (hS1.up hb15) hS2)
  simp only [Sli.v] at HSt
  have hc16 := bon (bon (bon hc13 hb13) hb14) hb15
  clear hx1 hx2 hS1 hS2 hb13 hb14 hb15 HIl hc13
  go_wp2_with fail
  refine HSt.out.mono ?_
  rintro e w16 ⟨rfl, hb16⟩
  have hc17 := bon hc16 hb16
  clear HSt hb16 hc16
  go_wp2_with fail
  refine (trim_any a (by omega) _).mono ?_
  rintro e w17 ⟨ta, rfl, hta, hb17⟩
  have htas : ta.size ≤ 4096 := by
    have := trim_len (dl a)
    rw [← hta, dl_len, dl_len] at this
    omega
  have HIl : Hid (∀ W, Calls Tryd.prog 23 #[.string ta] W (StrsEnds (itemsL (dl a)) W)) := Lib.hid (fun W => by
    have := items_any ta htas W
    rw [hta, items_trim] at this
    exact this)
  clear hta
  go_wp2_with fail
  refine (HIl.out _).mono ?_
  rintro e w18 ⟨S1, x1, rfl, hx1, hS1, hb18⟩
  go_wp2_with fail
  refine (HIa.out _).mono ?_
  rintro e w19 ⟨S2, x2, rfl, hx2, hS2, hb19⟩
  obtain rfl : x1 = x2 := map_dl_inj (hx1.trans hx2.symm)
  have HSt := Lib.hid (strings_same S1 S2 x1 w19 (hS1.up hb19) hS2)
  simp only [Sli.v] at HSt
  have hc20 := bon (bon (bon hc17 hb17) hb18) hb19
  clear hx1 hx2 hS1 hS2 hb17 hb18 hb19 HIl hc17
  go_wp2_with fail
  refine HSt.out.mono ?_
  rintro e w20 ⟨rfl, hb20⟩
  go_wp2
  go_ret
  exact ⟨by rfl, bon hc20 hb20⟩

end Go.Proofs.YtlnekljbmfdgnaaDoor
