/-
  THE WALK of the statement DiskStrokes, from what it asks of the program's Disk.
-/
import Derived.Test.YtcajljpdflginaaDiskWakes
import Derived.Test.YtcajljpdflginaaDiskAt
namespace Go.Proofs.Ytcajljpdflginaa
namespace Dk
open Go.RowKit
theorem cut_some {bs : List Int} {j : Nat} (h : j ≤ bs.length) (sf : Nat) : (⟨bs, sf, false, none⟩ : DSt).cut j = (0, ⟨bs.take j, j, false, none⟩) := by
  simp [DSt.cut, DSt.stroke]
  omega
theorem cut_span {bs : List Int} {n : Int} (h : n < 0 ∨ (bs.length : Int) < n) (sf : Nat) : (⟨bs, sf, false, none⟩ : DSt).cut n = (9, ⟨bs, sf, false, none⟩) := by
  simp [DSt.cut, h]
theorem left_all (bs : List Int) : left bs bs.length 0 = bs := by
  unfold left
  rw [if_neg (by simp)]
set_option maxRecDepth 100000 in
set_option maxHeartbeats 4000000 in
theorem strokes_any {D : World → Nat → List Nat → DSt → Nat → Prop} (L : DLaws D) (A B : Option Addr) (n k c d : Nat) (xs ys : List Int) (at_ : Int) (w : World) (hA : Was w A n c xs) (hB : Was w B k d ys) (hk0 : -9223372036854775808 ≤ at_) (hk1 : at_ ≤ 9223372036854775807) :
    Calls Try.prog 7 #[.slice A n c, .slice B k d, .int .i64 at_] w fun e w' => e = .returned (.bool true) ∧ Moved w w' [] := by
  have HA := Lib.hid hA
  have HB := Lib.hid hB
  have hnr := hA.room
  have hkr := hB.room
  have hyl : ys.length = k := HB.out.len
  have hxl : xs.length = n := HA.out.len
  clear hA hB
  by_cases hn : 65536 < n
  · go_enter Try.func7, Try.ntmps7
    go_wp2
    go_ret
    exact ⟨rfl, Moved.refl _ _⟩
  by_cases hk : 65536 < k
  · go_enter Try.func7, Try.ntmps7
    go_wp2
    go_ret
    exact ⟨rfl, Moved.refl _ _⟩
  have hdn : decide (65536 < n) = false := by simpa using hn
  have hdk : decide (65536 < k) = false := by simpa using hk
  rcases (by omega : at_ < 0 ∨ (0 ≤ at_ ∧ at_ ≤ n) ∨ (n : Int) < at_) with hkp | hkp | hkp
  · have hge : decide (0 ≤ at_) = false := by simp; omega
    obtain ⟨ts, hts⟩ : ∃ ts, ts = xs := ⟨_, rfl⟩
    have HTS := Lib.hid hts
    clear hts
    go_enter Try.func7, Try.ntmps7
    go_wp2_with fail
    refine (At.new_ L w).mono ?_
    rintro e w1 ⟨p, f1, rfl, h1⟩
    have H1 := Lib.hid h1
    clear h1
    go_wp2_with fail
    refine (H1.out.append L HA.out (e := 0) (s' := ⟨xs, 0, false, none⟩) rfl rfl (by omega)).mono ?_
    rintro e w2 ⟨rfl, f2, h2⟩
    have H2 := Lib.hid h2
    clear h2 H1
    go_wp2_with fail
    refine (H2.out.cut L (n := at_) (e := 9) (s' := ⟨ts, 0, false, none⟩) (by rw [HTS.out]; exact cut_span (by omega) 0) (by omega) (by omega) (by omega)).mono ?_
    rintro e w3 ⟨rfl, f3, h3⟩
    have H3 := Lib.hid h3
    clear h3 H2
    go_wp2_with fail
    refine (H3.out.read L (e := 0) (out := ts) rfl rfl (by omega)).mono ?_
    rintro e w4 ⟨A4, c4, f4, rfl, hT4, hTa4, hTb4, hTc4, h4⟩
    have H4 := Lib.hid h4
    clear h4 H3
    have HT4 := Lib.hid hT4
    clear hT4
    have HLR := Lib.hid (show ts.length = n by rw [HTS.out]; omega)
    have HNA := Lib.hid (show NRow .u8 w4 A ts by rw [HTS.out]; exact (HA.out.now H4.out.old))
    have HBY := Lib.hid (show ByteList ts by rw [HTS.out]; exact HA.out.bytes)
    go_wp2_with fail
    refine (bytes_is _ _ _ _ _ _ ts ts _ HT4.out.nrow (by exact HNA.out) rfl HLR.out HBY.out HBY.out true (by simp)).mono ?_
    rintro e wb ⟨rfl, rfl⟩
    go_wp2_with fail
    refine (H4.out.swap L HB.out (e := 0) (s' := ⟨ys, ys.length, false, none⟩) rfl (by omega)).mono ?_
    rintro e w5 ⟨rfl, f5, h5⟩
    have H5 := Lib.hid h5
    clear h5 H4
    go_wp2_with fail
    refine (H5.out.synced L (k := k) hyl (by omega)).mono ?_
    rintro e w6 ⟨rfl, f6, h6⟩
    have H6 := Lib.hid h6
    clear h6 H5
    go_wp2_with fail
    refine (H6.out.crash L (s' := ⟨ys, ys.length, true, none⟩) (by rw [← left_all ys]; simp [DSt.crash, left_all]) (by omega) (by omega) (by omega)).mono ?_
    rintro e w7 ⟨rfl, f7, h7⟩
    have H7 := Lib.hid h7
    clear h7 H6
    go_wp2_with fail
    refine (H7.out.start L (s' := ⟨ys, ys.length, false, none⟩) rfl (by omega)).mono ?_
    rintro e w8 ⟨rfl, f8, h8⟩
    have H8 := Lib.hid h8
    clear h8 H7
    go_wp2_with fail
    refine (H8.out.read L (e := 0) (out := ys) rfl rfl (by omega)).mono ?_
    rintro e w9 ⟨A9, c9, f9, rfl, hT9, hTa9, hTb9, hTc9, h9⟩
    have H9 := Lib.hid h9
    clear h9 H8
    have HT9 := Lib.hid hT9
    clear hT9
    have HNB := Lib.hid (HB.out.now H9.out.old)
    go_wp2_with fail
    refine (bytes_is _ _ _ _ _ _ ys ys _ HT9.out.nrow (by exact HNB.out) HB.out.len HB.out.len HB.out.bytes HB.out.bytes true (by simp)).mono ?_
    rintro e wc ⟨rfl, rfl⟩
    go_wp2_with fail
    refine (wakes_any L _).mono ?_
    rintro e wd ⟨rfl, hMd⟩
    have HMd := Lib.hid (H9.out.old.trans hMd (fun _ h => by cases h))
    clear hMd
    go_wp2
    go_ret
    exact ⟨rfl, HMd.out⟩
  · obtain ⟨j, rfl⟩ : ∃ j : Nat, at_ = j := ⟨at_.toNat, by omega⟩
    have HTL := Lib.hid (show (xs.take j).length = j by rw [List.length_take]; omega)
    have hjc : (j : Int) ≤ c := by omega
    obtain ⟨ts, hts⟩ : ∃ ts, ts = xs.take j := ⟨_, rfl⟩
    have HTS := Lib.hid hts
    clear hts
    go_enter Try.func7, Try.ntmps7
    go_wp2_with fail
    refine (At.new_ L w).mono ?_
    rintro e w1 ⟨p, f1, rfl, h1⟩
    have H1 := Lib.hid h1
    clear h1
    go_wp2_with fail
    refine (H1.out.append L HA.out (e := 0) (s' := ⟨xs, 0, false, none⟩) rfl rfl (by omega)).mono ?_
    rintro e w2 ⟨rfl, f2, h2⟩
    have H2 := Lib.hid h2
    clear h2 H1
    go_wp2_with fail
    refine (H2.out.cut L (n := (j : Int)) (e := 0) (s' := ⟨ts, j, false, none⟩) (by rw [HTS.out]; exact cut_some (by omega) 0) (by omega) (by omega) (by omega)).mono ?_
    rintro e w3 ⟨rfl, f3, h3⟩
    have H3 := Lib.hid h3
    clear h3 H2
    go_wp2_with fail
    refine (H3.out.read L (e := 0) (out := ts) rfl rfl (by omega)).mono ?_
    rintro e w4 ⟨A4, c4, f4, rfl, hT4, hTa4, hTb4, hTc4, h4⟩
    have H4 := Lib.hid h4
    clear h4 H3
    have HT4 := Lib.hid hT4
    clear hT4
    have HLR := Lib.hid (show ts.length = j by rw [HTS.out]; rw [List.length_take]; omega)
    have HNA := Lib.hid (show NRow .u8 w4 A ts by rw [HTS.out]; exact ((HA.out.now H4.out.old).take j))
    have HBY := Lib.hid (show ByteList ts by rw [HTS.out]; exact HA.out.bytes.take j)
    go_wp2_with fail
    refine (bytes_is _ _ _ _ _ _ ts ts _ HT4.out.nrow (by exact HNA.out) rfl HLR.out HBY.out HBY.out true (by simp)).mono ?_
    rintro e wb ⟨rfl, rfl⟩
    go_wp2_with fail
    refine (H4.out.synced L (k := j) rfl (by omega)).mono ?_
    rintro e w5 ⟨rfl, f5, h5⟩
    have H5 := Lib.hid h5
    clear h5 H4
    go_wp2_with fail
    refine (H5.out.swap L HB.out (e := 0) (s' := ⟨ys, ys.length, false, none⟩) rfl (by omega)).mono ?_
    rintro e w6 ⟨rfl, f6, h6⟩
    have H6 := Lib.hid h6
    clear h6 H5
    go_wp2_with fail
    refine (H6.out.synced L (k := k) hyl (by omega)).mono ?_
    rintro e w7 ⟨rfl, f7, h7⟩
    have H7 := Lib.hid h7
    clear h7 H6
    go_wp2_with fail
    refine (H7.out.crash L (s' := ⟨ys, ys.length, true, none⟩) (by rw [← left_all ys]; simp [DSt.crash, left_all]) (by omega) (by omega) (by omega)).mono ?_
    rintro e w8 ⟨rfl, f8, h8⟩
    have H8 := Lib.hid h8
    clear h8 H7
    go_wp2_with fail
    refine (H8.out.start L (s' := ⟨ys, ys.length, false, none⟩) rfl (by omega)).mono ?_
    rintro e w9 ⟨rfl, f9, h9⟩
    have H9 := Lib.hid h9
    clear h9 H8
    go_wp2_with fail
    refine (H9.out.read L (e := 0) (out := ys) rfl rfl (by omega)).mono ?_
    rintro e w10 ⟨A10, c10, f10, rfl, hT10, hTa10, hTb10, hTc10, h10⟩
    have H10 := Lib.hid h10
    clear h10 H9
    have HT10 := Lib.hid hT10
    clear hT10
    have HNB := Lib.hid (HB.out.now H10.out.old)
    go_wp2_with fail
    refine (bytes_is _ _ _ _ _ _ ys ys _ HT10.out.nrow (by exact HNB.out) HB.out.len HB.out.len HB.out.bytes HB.out.bytes true (by simp)).mono ?_
    rintro e wc ⟨rfl, rfl⟩
    go_wp2_with fail
    refine (wakes_any L _).mono ?_
    rintro e wd ⟨rfl, hMd⟩
    have HMd := Lib.hid (H10.out.old.trans hMd (fun _ h => by cases h))
    clear hMd
    go_wp2
    go_ret
    exact ⟨rfl, HMd.out⟩
  · have hge : decide (0 ≤ at_) = true := by simp; omega
    have hle : decide (at_ ≤ (n : Int)) = false := by simp; omega
    obtain ⟨ts, hts⟩ : ∃ ts, ts = xs := ⟨_, rfl⟩
    have HTS := Lib.hid hts
    clear hts
    go_enter Try.func7, Try.ntmps7
    go_wp2_with fail
    refine (At.new_ L w).mono ?_
    rintro e w1 ⟨p, f1, rfl, h1⟩
    have H1 := Lib.hid h1
    clear h1
    go_wp2_with fail
    refine (H1.out.append L HA.out (e := 0) (s' := ⟨xs, 0, false, none⟩) rfl rfl (by omega)).mono ?_
    rintro e w2 ⟨rfl, f2, h2⟩
    have H2 := Lib.hid h2
    clear h2 H1
    go_wp2_with fail
    refine (H2.out.cut L (n := at_) (e := 9) (s' := ⟨ts, 0, false, none⟩) (by rw [HTS.out]; exact cut_span (by omega) 0) (by omega) (by omega) (by omega)).mono ?_
    rintro e w3 ⟨rfl, f3, h3⟩
    have H3 := Lib.hid h3
    clear h3 H2
    go_wp2_with fail
    refine (H3.out.read L (e := 0) (out := ts) rfl rfl (by omega)).mono ?_
    rintro e w4 ⟨A4, c4, f4, rfl, hT4, hTa4, hTb4, hTc4, h4⟩
    have H4 := Lib.hid h4
    clear h4 H3
    have HT4 := Lib.hid hT4
    clear hT4
    have HLR := Lib.hid (show ts.length = n by rw [HTS.out]; omega)
    have HNA := Lib.hid (show NRow .u8 w4 A ts by rw [HTS.out]; exact (HA.out.now H4.out.old))
    have HBY := Lib.hid (show ByteList ts by rw [HTS.out]; exact HA.out.bytes)
    go_wp2_with fail
    refine (bytes_is _ _ _ _ _ _ ts ts _ HT4.out.nrow (by exact HNA.out) rfl HLR.out HBY.out HBY.out true (by simp)).mono ?_
    rintro e wb ⟨rfl, rfl⟩
    go_wp2_with fail
    refine (H4.out.swap L HB.out (e := 0) (s' := ⟨ys, ys.length, false, none⟩) rfl (by omega)).mono ?_
    rintro e w5 ⟨rfl, f5, h5⟩
    have H5 := Lib.hid h5
    clear h5 H4
    go_wp2_with fail
    refine (H5.out.synced L (k := k) hyl (by omega)).mono ?_
    rintro e w6 ⟨rfl, f6, h6⟩
    have H6 := Lib.hid h6
    clear h6 H5
    go_wp2_with fail
    refine (H6.out.crash L (s' := ⟨ys, ys.length, true, none⟩) (by rw [← left_all ys]; simp [DSt.crash, left_all]) (by omega) (by omega) (by omega)).mono ?_
    rintro e w7 ⟨rfl, f7, h7⟩
    have H7 := Lib.hid h7
    clear h7 H6
    go_wp2_with fail
    refine (H7.out.start L (s' := ⟨ys, ys.length, false, none⟩) rfl (by omega)).mono ?_
    rintro e w8 ⟨rfl, f8, h8⟩
    have H8 := Lib.hid h8
    clear h8 H7
    go_wp2_with fail
    refine (H8.out.read L (e := 0) (out := ys) rfl rfl (by omega)).mono ?_
    rintro e w9 ⟨A9, c9, f9, rfl, hT9, hTa9, hTb9, hTc9, h9⟩
    have H9 := Lib.hid h9
    clear h9 H8
    have HT9 := Lib.hid hT9
    clear hT9
    have HNB := Lib.hid (HB.out.now H9.out.old)
    go_wp2_with fail
    refine (bytes_is _ _ _ _ _ _ ys ys _ HT9.out.nrow (by exact HNB.out) HB.out.len HB.out.len HB.out.bytes HB.out.bytes true (by simp)).mono ?_
    rintro e wc ⟨rfl, rfl⟩
    go_wp2_with fail
    refine (wakes_any L _).mono ?_
    rintro e wd ⟨rfl, hMd⟩
    have HMd := Lib.hid (H9.out.old.trans hMd (fun _ h => by cases h))
    clear hMd
    go_wp2
    go_ret
    exact ⟨rfl, HMd.out⟩
end Dk
end Go.Proofs.Ytcajljpdflginaa
