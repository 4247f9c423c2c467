/-
  The walk of the law FieldBack: what is parsed, written again, is parsed to the same; what is dropped is there no more.
-/
import Derived.Test.YtlnekljbmfdgnaaDoorPieces
namespace Go.Proofs.YtlnekljbmfdgnaaDoor
open Go.RowKit

set_option maxRecDepth 100000 in
set_option maxHeartbeats 8000000 in
theorem back_any (s : ByteArray) (A : Option Addr) (len cap : Nat) (ys : List UInt8) (sm : Bool) (w : World) (hs : s.size ≤ 281474976710656) (hl : ys.length = len) (hm : len ≤ maxLen) (hU : Us w A ys) :
    Calls Tryd.prog 7 #[.string s, .slice A len cap, .bool sm] w (BoolEnds true w) := by
  have HP := Lib.hid (fun W (hb : Below w.heap.size w W) => pieces_any A len cap ys W hl hm (hU.up hb))
  clear hl hm hU
  have hcase : sm = true ∨ (sm = false ∧ 300 < s.size) ∨ (sm = false ∧ s.size ≤ 300) := by
    cases sm with
    | true => exact .inl rfl
    | false =>
      rcases Nat.lt_or_ge 300 s.size with h | h
      · exact .inr (.inl ⟨rfl, h⟩)
      · exact .inr (.inr ⟨rfl, h⟩)
  rcases hcase with rfl | ⟨rfl, hbig⟩ | ⟨rfl, hsmall⟩
  · go_enter Tryd.func7, Tryd.ntmps7
    go_wp2_with fail
    refine (awake_any _).mono ?_
    rintro e w1 ⟨rfl, hb1⟩
    go_wp2_with fail
    refine (HP.out _ hb1).mono ?_
    rintro e w2 ⟨r, rfl, hr, hb2⟩
    have hk3 : (⟨#[65, 98, 58]⟩ : ByteArray).size = 3 := rfl
    have zr : ((⟨#[65, 98, 58]⟩ : ByteArray) ++ r).size = 3 + r.size := by rw [ByteArray.size_append, hk3]
    have hus : ((⟨#[65, 98, 58]⟩ : ByteArray) ++ r).size ≤ 4096 := by omega
    have hbu := bon hb1 hb2
    go_wp2_with fail
    refine (parse_any ((⟨#[65, 98, 58]⟩ : ByteArray) ++ r) hus _).mono ?_
    rintro e w3 ⟨a, b, c, rfl, ha, hb, hc, hb3⟩
    have hB3 := bon hbu hb3
    have x1 := Box.new w3 32 #[.string a, .string b]
    rcases parse_cases (dl ((⟨#[65, 98, 58]⟩ : ByteArray) ++ r)) with ⟨pn, pv, hpe, hpn, hpv⟩ | hpe
    · rw [hpe] at ha hb hc
      simp only at ha hb hc
      subst hc ha hb
      have HPN := Lib.hid hpn
      have HPV := Lib.hid hpv
      have has : a.size ≤ 40 := by rw [← dl_len]; exact name_len hpn
      have hbs : b.size ≤ 200 := by rw [← dl_len]; exact value_len hpv
      clear hpe hpn hpv
      obtain ⟨p0, p1, _, _⟩ := x1.two
      have hk2 : (⟨#[58, 32]⟩ : ByteArray).size = 2 := rfl
      have z1 : (a ++ (⟨#[58, 32]⟩ : ByteArray)).size = a.size + 2 := by rw [ByteArray.size_append, hk2]
      have z2 : (a ++ (⟨#[58, 32]⟩ : ByteArray) ++ b).size = a.size + 2 + b.size := by rw [ByteArray.size_append, z1]
      have HP2 : Hid (∀ W, Calls Tryd.prog 18 #[.string (a ++ (⟨#[58, 32]⟩ : ByteArray) ++ b)] W fun e w' => e = .returned (.tuple #[.agg #[.string a, .string b], .int .i64 0]) ∧ Below W.heap.size W w') := Lib.hid (fun W => by
        refine (parse_any _ (by omega) W).mono ?_
        rintro e w' ⟨a', b', c', rfl, ha', hb', hc', hbb⟩
        have hd : dl (a ++ (⟨#[58, 32]⟩ : ByteArray) ++ b) = dl a ++ 58 :: 32 :: dl b := by rw [dl_app, dl_app, List.append_assoc]; rfl
        rw [hd, parse_back HPN.out HPV.out] at ha' hb' hc'
        rw [dl_inj ha', dl_inj hb', hc']
        exact ⟨rfl, hbb⟩)
      go_wp2_with fail
      refine (HP2.out _).mono ?_
      rintro e w4 ⟨rfl, hb4⟩
      have y1 := (x1.up hb4).alloc (.cells #[.string a, .string b] 32)
      have y2 := Box.new w4 32 #[.string a, .string b]
      have hB4 := bon (bon hB3 (ba1 w3 _)) (bon hb4 (ba1 w4 (.cells #[.string a, .string b] 32)))
      clear p0 p1
      obtain ⟨p0, p1, _, _⟩ := y1.two
      obtain ⟨q0, q1, _, _⟩ := y2.two
      have HF : Hid (Fs ((w4.alloc (.cells #[.string a, .string b] 32)).alloc (.cells #[.string a, .string b, .string a, .string b] 32)) ⟨some ⟨w4.heap.size + 1, 0, none⟩, 2, 2⟩ [(a, b), (a, b)]) := Lib.hid (by
        have := Fs.new (w4.alloc (.cells #[.string a, .string b] 32)) [(a, b), (a, b)] 2 rfl (by decide)
        have hsz : (w4.alloc (.cells #[.string a, .string b] 32)).heap.size = w4.heap.size + 1 := by simp
        rw [hsz] at this
        exact this)
      obtain ⟨p0', p1', _, _⟩ := (y1.alloc (.cells #[.string a, .string b, .string a, .string b] 32)).two
      obtain ⟨q0', q1', _, _⟩ := (y2.alloc (.cells #[.string a, .string b, .string a, .string b] 32)).two
      have hB5 := bon hB4 (ba1 (w4.alloc (.cells #[.string a, .string b] 32)) (.cells #[.string a, .string b, .string a, .string b] 32))
      have HNm : Hid (∀ W, Calls Tryd.prog 19 #[.string a] W fun e w' => e = .returned (.bool true) ∧ w' = W) := Lib.hid (fun W => by
        have := name_any a (by omega) W
        rw [HPN.out] at this
        exact this)
      have HVl : Hid (∀ W, Calls Tryd.prog 20 #[.string b] W (BoolEnds true W)) := Lib.hid (fun W => by
        have := value_any b (by omega) W
        rw [HPV.out] at this
        exact this)
      go_wp2_with fail
      refine (HNm.out _).mono ?_
      rintro e w5 ⟨rfl, hw5⟩
      subst hw5
      go_wp2_with fail
      refine (HVl.out _).mono ?_
      rintro e w5 ⟨rfl, hb5⟩
      have p5 := cell_up hb5 p0'
      have HF5 := Lib.hid (HF.out.up hb5)
      have hB6 := bon hB5 hb5
      generalize w3.heap.size = g1 at *
      generalize w4.heap.size + 1 = g2 at *
      clear p0 p1 q0 q1 p0' p1' q0' q1' HF hb5 hb4 hb3 x1 y1 y2 HP2 HNm HVl hB3 hB4 hB5
      go_wp2_with fail
      refine (lower_any a (by omega) _).mono ?_
      rintro e w6 ⟨la, rfl, hla, hb6⟩
      have hlas : la.size ≤ 4096 := by
        have := low_len (dl a)
        rw [← hla, dl_len, dl_len] at this
        omega
      have HGt : Hid (Calls Tryd.prog 13 #[.slice (some ⟨g2, 0, none⟩) 2 2, .string la] w6 fun e w' => ∃ A c, e = .returned (.slice A 2 c) ∧ Below w6.heap.size w6 w') := Lib.hid (by
        refine (get_any ⟨some ⟨g2, 0, none⟩, 2, 2⟩ [(a, b), (a, b)] la w6 (HF5.out.up hb6) (show 2 ≤ 4096 by decide) (by intro f hf; simp at hf; subst hf; simp only; omega) hlas).mono ?_
        rintro e w' ⟨s', rfl, hs', hbb⟩
        have hlen := hs'.len
        have h2 : getL [(a, b), (a, b)] la = [b, b] := by
          have : lowerL (dl a) = lowerL (dl la) := by rw [hla, lower_idem]
          simp [getL, this]
        rw [h2] at hlen
        rw [← hlen]
        exact ⟨_, _, rfl, hbb⟩)
      have p6 := cell_up hb6 p5
      have HF6 := Lib.hid (HF5.out.up hb6)
      have hB7 := bon hB6 hb6
      clear hla HF5 p5 hb6 hB6
      go_wp2_with fail
      refine HGt.out.mono ?_
      rintro e w7 ⟨A7, c7, rfl, hb7⟩
      have p7 := cell_up hb7 p6
      have HF7 := Lib.hid ((HF6.out.up hb7).up (ba1 w7 (.cells #[.string a] 9)))
      have hB8 := bon (bon hB7 hb7) (ba1 w7 (.cells #[.string a] 9))
      have HDr : Hid (Calls Tryd.prog 16 #[.slice (some ⟨g2, 0, none⟩) 2 2, .slice (some ⟨w7.heap.size, 0, none⟩) 1 1] (w7.alloc (.cells #[.string a] 9)) fun e w' => ∃ A c, e = .returned (.slice A 0 c) ∧ Below (w7.alloc (.cells #[.string a] 9)).heap.size (w7.alloc (.cells #[.string a] 9)) w') := Lib.hid (by
        refine (drop_any ⟨some ⟨g2, 0, none⟩, 2, 2⟩ ⟨some ⟨w7.heap.size, 0, none⟩, 1, 1⟩ [(a, b), (a, b)] [a] _ HF7.out (Ss.new w7 [a] 1 rfl (by decide)) (show 2 ≤ 4096 by decide) (show 1 ≤ 4096 by decide) (by intro f hf; simp at hf; subst hf; simp only; omega) (by intro f hf; simp at hf; subst hf; omega)).mono ?_
        rintro e w' ⟨s', rfl, hs', hbb⟩
        have hlen := hs'.len
        have h2 : dropL [(a, b), (a, b)] [a] = [] := by simp [dropL, hitL]
        rw [h2] at hlen
        rw [← hlen]
        exact ⟨_, _, rfl, hbb⟩)
      clear HF6 HF7 p6 hb7 hB7 HGt
      go_wp2_with fail
      refine HDr.out.mono ?_
      rintro e w8 ⟨A8, c8, rfl, hb8⟩
      have hB9 := bon hB8 hb8
      clear HDr hB8 hb8 p7
      go_wp2_with fail
      refine (lower_any ((⟨#[65, 98, 58]⟩ : ByteArray) ++ r) hus _).mono ?_
      rintro e w9 ⟨l1, rfl, hl1, hb9⟩
      have hl1s : l1.size ≤ 4096 := by
        have := low_len (dl ((⟨#[65, 98, 58]⟩ : ByteArray) ++ r))
        rw [← hl1, dl_len, dl_len] at this
        have := hus
        omega
      go_wp2_with fail
      refine (lower_any l1 hl1s _).mono ?_
      rintro e w10 ⟨l2, rfl, hl2, hb10⟩
      go_wp2_with fail
      refine (lower_any ((⟨#[65, 98, 58]⟩ : ByteArray) ++ r) hus _).mono ?_
      rintro e w11 ⟨l3, rfl, hl3, hb11⟩
      obtain rfl : l2 = l3 := dl_inj (by rw [hl2, hl3, hl1, lower_idem])
      have hB12 := bon (bon (bon hB9 hb9) hb10) hb11
      clear hl1 hl2 hl3 hb9 hb10 hb11 hB9
      go_wp2_with fail
      refine (trim_any ((⟨#[65, 98, 58]⟩ : ByteArray) ++ r) hus _).mono ?_
      rintro e w12 ⟨t1, rfl, ht1, hb12⟩
      have ht1s : t1.size ≤ 4096 := by
        have := trim_len (dl ((⟨#[65, 98, 58]⟩ : ByteArray) ++ r))
        rw [← ht1, dl_len, dl_len] at this
        have := hus
        omega
      go_wp2_with fail
      refine (trim_any t1 ht1s _).mono ?_
      rintro e w13 ⟨t2, rfl, ht2, hb13⟩
      go_wp2_with fail
      refine (trim_any ((⟨#[65, 98, 58]⟩ : ByteArray) ++ r) hus _).mono ?_
      rintro e w14 ⟨t3, rfl, ht3, hb14⟩
      obtain rfl : t2 = t3 := dl_inj (by rw [ht2, ht3, ht1, trim_idem])
      clear ht1 ht2 ht3
      go_wp2
      go_ret
      exact ⟨by rfl, bon (bon (bon hB12 hb12) hb13) hb14⟩
    · rw [hpe] at ha hb hc
      simp only at ha hb hc
      subst hc
      obtain rfl : a = ⟨#[]⟩ := dl_inj ha
      obtain rfl : b = ⟨#[]⟩ := dl_inj hb
      obtain ⟨p0, p1, _, _⟩ := x1.two
      clear ha hb hpe
      go_wp2
      go_ret
      exact ⟨by rfl, bon hB3 (ba1 w3 _)⟩
  · go_enter Tryd.func7, Tryd.ntmps7
    go_wp2_with fail
    refine (awake_any _).mono ?_
    rintro e w1 ⟨rfl, hb1⟩
    go_wp2_with fail
    refine (HP.out _ hb1).mono ?_
    rintro e w2 ⟨r, rfl, hr, hb2⟩
    have hk3 : (⟨#[65, 98, 58]⟩ : ByteArray).size = 3 := rfl
    have zr : ((⟨#[65, 98, 58]⟩ : ByteArray) ++ r).size = 3 + r.size := by rw [ByteArray.size_append, hk3]
    have hus : ((⟨#[65, 98, 58]⟩ : ByteArray) ++ r).size ≤ 4096 := by omega
    have hbu := bon hb1 hb2
    go_wp2_with fail
    refine (parse_any ((⟨#[65, 98, 58]⟩ : ByteArray) ++ r) hus _).mono ?_
    rintro e w3 ⟨a, b, c, rfl, ha, hb, hc, hb3⟩
    have hB3 := bon hbu hb3
    have x1 := Box.new w3 32 #[.string a, .string b]
    rcases parse_cases (dl ((⟨#[65, 98, 58]⟩ : ByteArray) ++ r)) with ⟨pn, pv, hpe, hpn, hpv⟩ | hpe
    · rw [hpe] at ha hb hc
      simp only at ha hb hc
      subst hc ha hb
      have HPN := Lib.hid hpn
      have HPV := Lib.hid hpv
      have has : a.size ≤ 40 := by rw [← dl_len]; exact name_len hpn
      have hbs : b.size ≤ 200 := by rw [← dl_len]; exact value_len hpv
      clear hpe hpn hpv
      obtain ⟨p0, p1, _, _⟩ := x1.two
      have hk2 : (⟨#[58, 32]⟩ : ByteArray).size = 2 := rfl
      have z1 : (a ++ (⟨#[58, 32]⟩ : ByteArray)).size = a.size + 2 := by rw [ByteArray.size_append, hk2]
      have z2 : (a ++ (⟨#[58, 32]⟩ : ByteArray) ++ b).size = a.size + 2 + b.size := by rw [ByteArray.size_append, z1]
      have HP2 : Hid (∀ W, Calls Tryd.prog 18 #[.string (a ++ (⟨#[58, 32]⟩ : ByteArray) ++ b)] W fun e w' => e = .returned (.tuple #[.agg #[.string a, .string b], .int .i64 0]) ∧ Below W.heap.size W w') := Lib.hid (fun W => by
        refine (parse_any _ (by omega) W).mono ?_
        rintro e w' ⟨a', b', c', rfl, ha', hb', hc', hbb⟩
        have hd : dl (a ++ (⟨#[58, 32]⟩ : ByteArray) ++ b) = dl a ++ 58 :: 32 :: dl b := by rw [dl_app, dl_app, List.append_assoc]; rfl
        rw [hd, parse_back HPN.out HPV.out] at ha' hb' hc'
        rw [dl_inj ha', dl_inj hb', hc']
        exact ⟨rfl, hbb⟩)
      go_wp2_with fail
      refine (HP2.out _).mono ?_
      rintro e w4 ⟨rfl, hb4⟩
      have y1 := (x1.up hb4).alloc (.cells #[.string a, .string b] 32)
      have y2 := Box.new w4 32 #[.string a, .string b]
      have hB4 := bon (bon hB3 (ba1 w3 _)) (bon hb4 (ba1 w4 (.cells #[.string a, .string b] 32)))
      clear p0 p1
      obtain ⟨p0, p1, _, _⟩ := y1.two
      obtain ⟨q0, q1, _, _⟩ := y2.two
      have HF : Hid (Fs ((w4.alloc (.cells #[.string a, .string b] 32)).alloc (.cells #[.string a, .string b, .string a, .string b] 32)) ⟨some ⟨w4.heap.size + 1, 0, none⟩, 2, 2⟩ [(a, b), (a, b)]) := Lib.hid (by
        have := Fs.new (w4.alloc (.cells #[.string a, .string b] 32)) [(a, b), (a, b)] 2 rfl (by decide)
        have hsz : (w4.alloc (.cells #[.string a, .string b] 32)).heap.size = w4.heap.size + 1 := by simp
        rw [hsz] at this
        exact this)
      obtain ⟨p0', p1', _, _⟩ := (y1.alloc (.cells #[.string a, .string b, .string a, .string b] 32)).two
      obtain ⟨q0', q1', _, _⟩ := (y2.alloc (.cells #[.string a, .string b, .string a, .string b] 32)).two
      have hB5 := bon hB4 (ba1 (w4.alloc (.cells #[.string a, .string b] 32)) (.cells #[.string a, .string b, .string a, .string b] 32))
      have HNm : Hid (∀ W, Calls Tryd.prog 19 #[.string a] W fun e w' => e = .returned (.bool true) ∧ w' = W) := Lib.hid (fun W => by
        have := name_any a (by omega) W
        rw [HPN.out] at this
        exact this)
      have HVl : Hid (∀ W, Calls Tryd.prog 20 #[.string b] W (BoolEnds true W)) := Lib.hid (fun W => by
        have := value_any b (by omega) W
        rw [HPV.out] at this
        exact this)
      go_wp2_with fail
      refine (HNm.out _).mono ?_
      rintro e w5 ⟨rfl, hw5⟩
      subst hw5
      go_wp2_with fail
      refine (HVl.out _).mono ?_
      rintro e w5 ⟨rfl, hb5⟩
      have p5 := cell_up hb5 p0'
      have HF5 := Lib.hid (HF.out.up hb5)
      have hB6 := bon hB5 hb5
      generalize w3.heap.size = g1 at *
      generalize w4.heap.size + 1 = g2 at *
      clear p0 p1 q0 q1 p0' p1' q0' q1' HF hb5 hb4 hb3 x1 y1 y2 HP2 HNm HVl hB3 hB4 hB5
      go_wp2_with fail
      refine (lower_any a (by omega) _).mono ?_
      rintro e w6 ⟨la, rfl, hla, hb6⟩
      have hlas : la.size ≤ 4096 := by
        have := low_len (dl a)
        rw [← hla, dl_len, dl_len] at this
        omega
      have HGt : Hid (Calls Tryd.prog 13 #[.slice (some ⟨g2, 0, none⟩) 2 2, .string la] w6 fun e w' => ∃ A c, e = .returned (.slice A 2 c) ∧ Below w6.heap.size w6 w') := Lib.hid (by
        refine (get_any ⟨some ⟨g2, 0, none⟩, 2, 2⟩ [(a, b), (a, b)] la w6 (HF5.out.up hb6) (show 2 ≤ 4096 by decide) (by intro f hf; simp at hf; subst hf; simp only; omega) hlas).mono ?_
        rintro e w' ⟨s', rfl, hs', hbb⟩
        have hlen := hs'.len
        have h2 : getL [(a, b), (a, b)] la = [b, b] := by
          have : lowerL (dl a) = lowerL (dl la) := by rw [hla, lower_idem]
          simp [getL, this]
        rw [h2] at hlen
        rw [← hlen]
        exact ⟨_, _, rfl, hbb⟩)
      have p6 := cell_up hb6 p5
      have HF6 := Lib.hid (HF5.out.up hb6)
      have hB7 := bon hB6 hb6
      clear hla HF5 p5 hb6 hB6
      go_wp2_with fail
      refine HGt.out.mono ?_
      rintro e w7 ⟨A7, c7, rfl, hb7⟩
      have p7 := cell_up hb7 p6
      have HF7 := Lib.hid ((HF6.out.up hb7).up (ba1 w7 (.cells #[.string a] 9)))
      have hB8 := bon (bon hB7 hb7) (ba1 w7 (.cells #[.string a] 9))
      have HDr : Hid (Calls Tryd.prog 16 #[.slice (some ⟨g2, 0, none⟩) 2 2, .slice (some ⟨w7.heap.size, 0, none⟩) 1 1] (w7.alloc (.cells #[.string a] 9)) fun e w' => ∃ A c, e = .returned (.slice A 0 c) ∧ Below (w7.alloc (.cells #[.string a] 9)).heap.size (w7.alloc (.cells #[.string a] 9)) w') := Lib.hid (by
        refine (drop_any ⟨some ⟨g2, 0, none⟩, 2, 2⟩ ⟨some ⟨w7.heap.size, 0, none⟩, 1, 1⟩ [(a, b), (a, b)] [a] _ HF7.out (Ss.new w7 [a] 1 rfl (by decide)) (show 2 ≤ 4096 by decide) (show 1 ≤ 4096 by decide) (by intro f hf; simp at hf; subst hf; simp only; omega) (by intro f hf; simp at hf; subst hf; omega)).mono ?_
        rintro e w' ⟨s', rfl, hs', hbb⟩
        have hlen := hs'.len
        have h2 : dropL [(a, b), (a, b)] [a] = [] := by simp [dropL, hitL]
        rw [h2] at hlen
        rw [← hlen]
        exact ⟨_, _, rfl, hbb⟩)
      clear HF6 HF7 p6 hb7 hB7 HGt
      go_wp2_with fail
      refine HDr.out.mono ?_
      rintro e w8 ⟨A8, c8, rfl, hb8⟩
      have hB9 := bon hB8 hb8
      clear HDr hB8 hb8 p7
      go_wp2_with fail
      refine (lower_any ((⟨#[65, 98, 58]⟩ : ByteArray) ++ r) hus _).mono ?_
      rintro e w9 ⟨l1, rfl, hl1, hb9⟩
      have hl1s : l1.size ≤ 4096 := by
        have := low_len (dl ((⟨#[65, 98, 58]⟩ : ByteArray) ++ r))
        rw [← hl1, dl_len, dl_len] at this
        have := hus
        omega
      go_wp2_with fail
      refine (lower_any l1 hl1s _).mono ?_
      rintro e w10 ⟨l2, rfl, hl2, hb10⟩
      go_wp2_with fail
      refine (lower_any ((⟨#[65, 98, 58]⟩ : ByteArray) ++ r) hus _).mono ?_
      rintro e w11 ⟨l3, rfl, hl3, hb11⟩
      obtain rfl : l2 = l3 := dl_inj (by rw [hl2, hl3, hl1, lower_idem])
      have hB12 := bon (bon (bon hB9 hb9) hb10) hb11
      clear hl1 hl2 hl3 hb9 hb10 hb11 hB9
      go_wp2_with fail
      refine (trim_any ((⟨#[65, 98, 58]⟩ : ByteArray) ++ r) hus _).mono ?_
      rintro e w12 ⟨t1, rfl, ht1, hb12⟩
      have ht1s : t1.size ≤ 4096 := by
        have := trim_len (dl ((⟨#[65, 98, 58]⟩ : ByteArray) ++ r))
        rw [← ht1, dl_len, dl_len] at this
        have := hus
        omega
      go_wp2_with fail
      refine (trim_any t1 ht1s _).mono ?_
      rintro e w13 ⟨t2, rfl, ht2, hb13⟩
      go_wp2_with fail
      refine (trim_any ((⟨#[65, 98, 58]⟩ : ByteArray) ++ r) hus _).mono ?_
      rintro e w14 ⟨t3, rfl, ht3, hb14⟩
      obtain rfl : t2 = t3 := dl_inj (by rw [ht2, ht3, ht1, trim_idem])
      clear ht1 ht2 ht3
      go_wp2
      go_ret
      exact ⟨by rfl, bon (bon (bon hB12 hb12) hb13) hb14⟩
    · rw [hpe] at ha hb hc
      simp only at ha hb hc
      subst hc
      obtain rfl : a = ⟨#[]⟩ := dl_inj ha
      obtain rfl : b = ⟨#[]⟩ := dl_inj hb
      obtain ⟨p0, p1, _, _⟩ := x1.two
      clear ha hb hpe
      go_wp2
      go_ret
      exact ⟨by rfl, bon hB3 (ba1 w3 _)⟩
  · go_enter Tryd.func7, Tryd.ntmps7
    go_wp2_with fail
    refine (awake_any _).mono ?_
    rintro e w1 ⟨rfl, hb1⟩
    have hus : s.size ≤ 4096 := by omega
    go_wp2_with fail
    refine (parse_any s hus _).mono ?_
    rintro e w3 ⟨a, b, c, rfl, ha, hb, hc, hb3⟩
    have hB3 := bon hb1 hb3
    have x1 := Box.new w3 32 #[.string a, .string b]
    rcases parse_cases (dl s) with ⟨pn, pv, hpe, hpn, hpv⟩ | hpe
    · rw [hpe] at ha hb hc
      simp only at ha hb hc
      subst hc ha hb
      have HPN := Lib.hid hpn
      have HPV := Lib.hid hpv
      have has : a.size ≤ 40 := by rw [← dl_len]; exact name_len hpn
      have hbs : b.size ≤ 200 := by rw [← dl_len]; exact value_len hpv
      clear hpe hpn hpv
      obtain ⟨p0, p1, _, _⟩ := x1.two
      have hk2 : (⟨#[58, 32]⟩ : ByteArray).size = 2 := rfl
      have z1 : (a ++ (⟨#[58, 32]⟩ : ByteArray)).size = a.size + 2 := by rw [ByteArray.size_append, hk2]
      have z2 : (a ++ (⟨#[58, 32]⟩ : ByteArray) ++ b).size = a.size + 2 + b.size := by rw [ByteArray.size_append, z1]
      have HP2 : Hid (∀ W, Calls Tryd.prog 18 #[.string (a ++ (⟨#[58, 32]⟩ : ByteArray) ++ b)] W fun e w' => e = .returned (.tuple #[.agg #[.string a, .string b], .int .i64 0]) ∧ Below W.heap.size W w') := Lib.hid (fun W => by
        refine (parse_any _ (by omega) W).mono ?_
        rintro e w' ⟨a', b', c', rfl, ha', hb', hc', hbb⟩
        have hd : dl (a ++ (⟨#[58, 32]⟩ : ByteArray) ++ b) = dl a ++ 58 :: 32 :: dl b := by rw [dl_app, dl_app, List.append_assoc]; rfl
        rw [hd, parse_back HPN.out HPV.out] at ha' hb' hc'
        rw [dl_inj ha', dl_inj hb', hc']
        exact ⟨rfl, hbb⟩)
      go_wp2_with fail
      refine (HP2.out _).mono ?_
      rintro e w4 ⟨rfl, hb4⟩
      have y1 := (x1.up hb4).alloc (.cells #[.string a, .string b] 32)
      have y2 := Box.new w4 32 #[.string a, .string b]
      have hB4 := bon (bon hB3 (ba1 w3 _)) (bon hb4 (ba1 w4 (.cells #[.string a, .string b] 32)))
      clear p0 p1
      obtain ⟨p0, p1, _, _⟩ := y1.two
      obtain ⟨q0, q1, _, _⟩ := y2.two
      have HF : Hid (Fs ((w4.alloc (.cells #[.string a, .string b] 32)).alloc (.cells #[.string a, .string b, .string a, .string b] 32)) ⟨some ⟨w4.heap.size + 1, 0, none⟩, 2, 2⟩ [(a, b), (a, b)]) := Lib.hid (by
        have := Fs.new (w4.alloc (.cells #[.string a, .string b] 32)) [(a, b), (a, b)] 2 rfl (by decide)
        have hsz : (w4.alloc (.cells #[.string a, .string b] 32)).heap.size = w4.heap.size + 1 := by simp
        rw [hsz] at this
        exact this)
      obtain ⟨p0', p1', _, _⟩ := (y1.alloc (.cells #[.string a, .string b, .string a, .string b] 32)).two
      obtain ⟨q0', q1', _, _⟩ := (y2.alloc (.cells #[.string a, .string b, .string a, .string b] 32)).two
      have hB5 := bon hB4 (ba1 (w4.alloc (.cells #[.string a, .string b] 32)) (.cells #[.string a, .string b, .string a, .string b] 32))
      have HNm : Hid (∀ W, Calls Tryd.prog 19 #[.string a] W fun e w' => e = .returned (.bool true) ∧ w' = W) := Lib.hid (fun W => by
        have := name_any a (by omega) W
        rw [HPN.out] at this
        exact this)
      have HVl : Hid (∀ W, Calls Tryd.prog 20 #[.string b] W (BoolEnds true W)) := Lib.hid (fun W => by
        have := value_any b (by omega) W
        rw [HPV.out] at this
        exact this)
      go_wp2_with fail
      refine (HNm.out _).mono ?_
      rintro e w5 ⟨rfl, hw5⟩
      subst hw5
      go_wp2_with fail
      refine (HVl.out _).mono ?_
      rintro e w5 ⟨rfl, hb5⟩
      have p5 := cell_up hb5 p0'
      have HF5 := Lib.hid (HF.out.up hb5)
      have hB6 := bon hB5 hb5
      generalize w3.heap.size = g1 at *
      generalize w4.heap.size + 1 = g2 at *
      clear p0 p1 q0 q1 p0' p1' q0' q1' HF hb5 hb4 hb3 x1 y1 y2 HP2 HNm HVl hB3 hB4 hB5
      go_wp2_with fail
      refine (lower_any a (by omega) _).mono ?_
      rintro e w6 ⟨la, rfl, hla, hb6⟩
      have hlas : la.size ≤ 4096 := by
        have := low_len (dl a)
        rw [← hla, dl_len, dl_len] at this
        omega
      have HGt : Hid (Calls Tryd.prog 13 #[.slice (some ⟨g2, 0, none⟩) 2 2, .string la] w6 fun e w' => ∃ A c, e = .returned (.slice A 2 c) ∧ Below w6.heap.size w6 w') := Lib.hid (by
        refine (get_any ⟨some ⟨g2, 0, none⟩, 2, 2⟩ [(a, b), (a, b)] la w6 (HF5.out.up hb6) (show 2 ≤ 4096 by decide) (by intro f hf; simp at hf; subst hf; simp only; omega) hlas).mono ?_
        rintro e w' ⟨s', rfl, hs', hbb⟩
        have hlen := hs'.len
        have h2 : getL [(a, b), (a, b)] la = [b, b] := by
          have : lowerL (dl a) = lowerL (dl la) := by rw [hla, lower_idem]
          simp [getL, this]
        rw [h2] at hlen
        rw [← hlen]
        exact ⟨_, _, rfl, hbb⟩)
      have p6 := cell_up hb6 p5
      have HF6 := Lib.hid (HF5.out.up hb6)
      have hB7 := bon hB6 hb6
      clear hla HF5 p5 hb6 hB6
      go_wp2_with fail
      refine HGt.out.mono ?_
      rintro e w7 ⟨A7, c7, rfl, hb7⟩
      have p7 := cell_up hb7 p6
      have HF7 := Lib.hid ((HF6.out.up hb7).up (ba1 w7 (.cells #[.string a] 9)))
      have hB8 := bon (bon hB7 hb7) (ba1 w7 (.cells #[.string a] 9))
      have HDr : Hid (Calls Tryd.prog 16 #[.slice (some ⟨g2, 0, none⟩) 2 2, .slice (some ⟨w7.heap.size, 0, none⟩) 1 1] (w7.alloc (.cells #[.string a] 9)) fun e w' => ∃ A c, e = .returned (.slice A 0 c) ∧ Below (w7.alloc (.cells #[.string a] 9)).heap.size (w7.alloc (.cells #[.string a] 9)) w') := Lib.hid (by
        refine (drop_any ⟨some ⟨g2, 0, none⟩, 2, 2⟩ ⟨some ⟨w7.heap.size, 0, none⟩, 1, 1⟩ [(a, b), (a, b)] [a] _ HF7.out (Ss.new w7 [a] 1 rfl (by decide)) (show 2 ≤ 4096 by decide) (show 1 ≤ 4096 by decide) (by intro f hf; simp at hf; subst hf; simp only; omega) (by intro f hf; simp at hf; subst hf; omega)).mono ?_
        rintro e w' ⟨s', rfl, hs', hbb⟩
        have hlen := hs'.len
        have h2 : dropL [(a, b), (a, b)] [a] = [] := by simp [dropL, hitL]
        rw [h2] at hlen
        rw [← hlen]
        exact ⟨_, _, rfl, hbb⟩)
      clear HF6 HF7 p6 hb7 hB7 HGt
      go_wp2_with fail
      refine HDr.out.mono ?_
      rintro e w8 ⟨A8, c8, rfl, hb8⟩
      have hB9 := bon hB8 hb8
      clear HDr hB8 hb8 p7
      go_wp2_with fail
      refine (lower_any s hus _).mono ?_
      rintro e w9 ⟨l1, rfl, hl1, hb9⟩
      have hl1s : l1.size ≤ 4096 := by
        have := low_len (dl s)
        rw [← hl1, dl_len, dl_len] at this
        have := hus
        omega
      go_wp2_with fail
      refine (lower_any l1 hl1s _).mono ?_
      rintro e w10 ⟨l2, rfl, hl2, hb10⟩
      go_wp2_with fail
      refine (lower_any s hus _).mono ?_
      rintro e w11 ⟨l3, rfl, hl3, hb11⟩
      obtain rfl : l2 = l3 := dl_inj (by rw [hl2, hl3, hl1, lower_idem])
      have hB12 := bon (bon (bon hB9 hb9) hb10) hb11
      clear hl1 hl2 hl3 hb9 hb10 hb11 hB9
      go_wp2_with fail
      refine (trim_any s hus _).mono ?_
      rintro e w12 ⟨t1, rfl, ht1, hb12⟩
      have ht1s : t1.size ≤ 4096 := by
        have := trim_len (dl s)
        rw [← ht1, dl_len, dl_len] at this
        have := hus
        omega
      go_wp2_with fail
      refine (trim_any t1 ht1s _).mono ?_
      rintro e w13 ⟨t2, rfl, ht2, hb13⟩
      go_wp2_with fail
      refine (trim_any s hus _).mono ?_
      rintro e w14 ⟨t3, rfl, ht3, hb14⟩
      obtain rfl : t2 = t3 := dl_inj (by rw [ht2, ht3, ht1, trim_idem])
      clear ht1 ht2 ht3
      go_wp2
      go_ret
      exact ⟨by rfl, bon (bon (bon hB12 hb12) hb13) hb14⟩
    · rw [hpe] at ha hb hc
      simp only at ha hb hc
      subst hc
      obtain rfl : a = ⟨#[]⟩ := dl_inj ha
      obtain rfl : b = ⟨#[]⟩ := dl_inj hb
      obtain ⟨p0, p1, _, _⟩ := x1.two
      clear ha hb hpe
      go_wp2
      go_ret
      exact ⟨by rfl, bon hB3 (ba1 w3 _)⟩

end Go.Proofs.YtlnekljbmfdgnaaDoor
