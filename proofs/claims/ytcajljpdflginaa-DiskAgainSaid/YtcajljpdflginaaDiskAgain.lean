/-
  THE WALK of the statement DiskAgain, from what it asks of the program's Disk.
-/
import Derived.Test.YtcajljpdflginaaDiskWakes
import Derived.Test.YtcajljpdflginaaDiskTwo
namespace Go.Proofs.Ytcajljpdflginaa
namespace Dk
open Go.RowKit
set_option maxRecDepth 100000 in
set_option maxHeartbeats 4000000 in
theorem again_any {D : World → Nat → List Nat → DSt → Nat → Prop} (L : DLaws D) (A B : Option Addr) (n k c d : Nat) (xs ys : List Int) (keep more : Int) (w : World) (hA : Was w A n c xs) (hB : Was w B k d ys) (hk0 : -9223372036854775808 ≤ keep) (hk1 : keep ≤ 9223372036854775807) (hm0 : -9223372036854775808 ≤ more) (hm1 : more ≤ 9223372036854775807) :
    Calls Try.prog 8 #[.slice A n c, .slice B k d, .int .i64 keep, .int .i64 more] w fun e w' => e = .returned (.bool true) ∧ Moved w w' [] := by
  have O := L.still
  have HA := Lib.hid hA
  have HB := Lib.hid hB
  clear hA hB
  by_cases hn : 65536 < n
  · go_enter Try.func8, Try.ntmps8
    go_wp2
    go_ret
    exact ⟨rfl, Moved.refl _ _⟩
  by_cases hk : 65536 < k
  · go_enter Try.func8, Try.ntmps8
    go_wp2
    go_ret
    exact ⟨rfl, Moved.refl _ _⟩
  have hdn : decide (65536 < n) = false := by simpa using hn
  have hdk : decide (65536 < k) = false := by simpa using hk
  have hxl : Hid (xs.length = n) := HA.out.len
  obtain ⟨ls, hls⟩ : ∃ ls, ls = left (xs ++ ys) xs.length keep := ⟨_, rfl⟩
  have HLS := Lib.hid hls
  clear hls
  go_enter Try.func8, Try.ntmps8
  go_wp2_with fail
  refine (At.new_ L w).mono ?_
  rintro e w1 ⟨q, f1, rfl, h1⟩
  have H1 := Lib.hid h1
  clear h1
  go_wp2_with fail
  refine (At.second L O H1.out).mono ?_
  rintro e w2 ⟨p, f2, rfl, h2⟩
  have H2 := Lib.hid h2.flip
  clear h2 H1
  go_wp2_with fail
  refine (H2.out.append L O HA.out (e := 0) (s' := ⟨xs, 0, false, none⟩) rfl rfl (by omega)).mono ?_
  rintro e w3 ⟨rfl, f3, h3⟩
  have H3 := Lib.hid h3
  clear h3 H2
  go_wp2_with fail
  refine (H3.out.flip.append L O HA.out (e := 0) (s' := ⟨xs, 0, false, none⟩) rfl rfl (by omega)).mono ?_
  rintro e w4 ⟨rfl, f4, h4⟩
  have H4 := Lib.hid h4
  clear h4 H3
  go_wp2_with fail
  refine (H4.out.flip.sync L O (e := 0) (s' := ⟨xs, xs.length, false, none⟩) rfl (by omega)).mono ?_
  rintro e w5 ⟨rfl, f5, h5⟩
  have H5 := Lib.hid h5
  clear h5 H4
  go_wp2_with fail
  refine (H5.out.flip.sync L O (e := 0) (s' := ⟨xs, xs.length, false, none⟩) rfl (by omega)).mono ?_
  rintro e w6 ⟨rfl, f6, h6⟩
  have H6 := Lib.hid h6
  clear h6 H5
  go_wp2_with fail
  refine (H6.out.flip.append L O HB.out (e := 0) (s' := ⟨xs ++ ys, xs.length, false, none⟩) rfl rfl (by omega)).mono ?_
  rintro e w7 ⟨rfl, f7, h7⟩
  have H7 := Lib.hid h7
  clear h7 H6
  go_wp2_with fail
  refine (H7.out.flip.append L O HB.out (e := 0) (s' := ⟨xs ++ ys, xs.length, false, none⟩) rfl rfl (by omega)).mono ?_
  rintro e w8 ⟨rfl, f8, h8⟩
  have H8 := Lib.hid h8
  clear h8 H7
  go_wp2_with fail
  refine (H8.out.start L O (s' := ⟨xs ++ ys, xs.length, false, none⟩) rfl (by omega)).mono ?_
  rintro e w9 ⟨rfl, f9, h9⟩
  have H9 := Lib.hid h9
  clear h9 H8
  go_wp2_with fail
  refine (H9.out.synced L O (k := n) hxl.out (by omega)).mono ?_
  rintro e w10 ⟨rfl, f10, h10⟩
  have H10 := Lib.hid h10
  clear h10 H9
  go_wp2_with fail
  refine (H10.out.flip.crash L O (s' := ⟨ls, xs.length, true, none⟩) (by rw [HLS.out]; rfl) (by omega) (by omega) (by omega)).mono ?_
  rintro e w11 ⟨rfl, f11, h11⟩
  have H11 := Lib.hid h11
  clear h11 H10
  go_wp2_with fail
  refine (H11.out.flip.crash L O (s' := ⟨ls, xs.length, true, none⟩) (by rw [HLS.out]; rfl) (by omega) (by omega) (by omega)).mono ?_
  rintro e w12 ⟨rfl, f12, h12⟩
  have H12 := Lib.hid h12
  clear h12 H11
  go_wp2_with fail
  refine (H12.out.crash L O (s' := ⟨ls, xs.length, true, none⟩) rfl (by omega) (by omega) (by omega)).mono ?_
  rintro e w13 ⟨rfl, f13, h13⟩
  have H13 := Lib.hid h13
  clear h13 H12
  go_wp2_with fail
  refine (H13.out.trip L O (s' := ⟨ls, xs.length, true, none⟩) rfl (by omega) (by omega)).mono ?_
  rintro e w14 ⟨rfl, f14, h14⟩
  have H14 := Lib.hid h14
  clear h14 H13
  go_wp2_with fail
  refine (H14.out.flip.start L O (s' := ⟨ls, ls.length, false, none⟩) rfl (by omega)).mono ?_
  rintro e w15 ⟨rfl, f15, h15⟩
  have H15 := Lib.hid h15
  clear h15 H14
  go_wp2_with fail
  refine (H15.out.flip.start L O (s' := ⟨ls, ls.length, false, none⟩) rfl (by omega)).mono ?_
  rintro e w16 ⟨rfl, f16, h16⟩
  have H16 := Lib.hid h16
  clear h16 H15
  go_wp2_with fail
  refine (H16.out.flip.read L O (e := 0) (out := ls) rfl rfl (by omega)).mono ?_
  rintro e w17 ⟨A17, c17, f17, rfl, hT17, hTa17, hTb17, hTc17, h17, hM17⟩
  have H17 := Lib.hid h17
  have HT17 := Lib.hid hT17
  clear h17 H16 hT17
  have HF1 := Lib.hid (hTc17)
  go_wp2_with fail
  refine (H17.out.flip.read L O (e := 0) (out := ls) rfl rfl (by omega)).mono ?_
  rintro e w18 ⟨A18, c18, f18, rfl, hT18, hTa18, hTb18, hTc18, h18, hM18⟩
  have H18 := Lib.hid h18
  have HT18 := Lib.hid hT18
  clear h18 H17 hT18
  have HBL := Lib.hid (show ByteList ls from L.bytes H18.out.a.on)
  have HT1 := Lib.hid (t_stays HT17.out (fun k hk => hM18.block k (t_lt HT17.out k hk) (fun hm => (HF1.out k hk).2.2 hm)))
  go_wp2_with fail
  refine (bytes_is _ _ _ _ _ _ ls ls _ HT1.out.nrow HT18.out.nrow rfl rfl HBL.out HBL.out true (by simp)).mono ?_
  rintro e wb ⟨rfl, rfl⟩
  go_wp2_with fail
  refine (H18.out.flip.synced L O (k := ls.length) rfl (by omega)).mono ?_
  rintro e w19 ⟨rfl, f19, h19⟩
  have H19 := Lib.hid h19
  clear h19 H18
  go_wp2_with fail
  refine (H19.out.flip.synced L O (k := ls.length) rfl (by omega)).mono ?_
  rintro e w20 ⟨rfl, f20, h20⟩
  have H20 := Lib.hid h20
  clear h20 H19
  go_wp2_with fail
  refine (H20.out.sync L O (e := 0) (s' := ⟨ls, ls.length, false, none⟩) rfl (by omega)).mono ?_
  rintro e w21 ⟨rfl, f21, h21⟩
  have H21 := Lib.hid h21
  clear h21 H20
  go_wp2_with fail
  refine (wakes_any L _).mono ?_
  rintro e wd ⟨rfl, hMd⟩
  have HMd := Lib.hid (H21.out.a.old.trans hMd (fun _ h => by cases h))
  clear hMd
  go_wp2
  go_ret
  exact ⟨rfl, HMd.out⟩
end Dk
end Go.Proofs.Ytcajljpdflginaa
