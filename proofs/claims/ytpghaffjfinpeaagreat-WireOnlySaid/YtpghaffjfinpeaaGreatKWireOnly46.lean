/-
  1 texts in one: WireOnly.
-/
import Derived.Test.YtpghaffjfinpeaaGreatKWireOnly14
import Derived.Test.YtpghaffjfinpeaaGreatKWireOnly26
import Derived.Test.YtpghaffjfinpeaaGreatKWireOnly28
import Derived.Test.YtpghaffjfinpeaaGreatKWireOnly30
import Derived.Test.YtpghaffjfinpeaaGreatKWireOnly34
import Derived.Test.YtpghaffjfinpeaaGreatKWireOnly42
import Derived.Test.YtpghaffjfinpeaaGreatKWireOnly43
import Derived.Test.YtpghaffjfinpeaaGreatKWireOnly44
import Derived.Test.YtpghaffjfinpeaaGreatKWireOnly45
import Derived.Deep.CutRange

/-
  THE WALK of the statement WireOnly.
-/
namespace Go.Proofs.YtpghaffjfinpeaaGreat
namespace Wi
open Go.RowKit Pk Am
set_option maxRecDepth 100000 in
set_option maxHeartbeats 4000000 in
theorem only_any (A : Option Addr) (n c : Nat) (xs : List Int) (w : World) (hA : NRow .u8 w A xs) (hn : xs.length = n) (hb : ByteList xs) (hc : A = none → c = 0) :
    Calls Tryz.prog 3 #[.slice A n c] w fun e w' => e = .returned (.bool true) ∧ Below w.heap.size w w' := by
  by_cases hbig : 65536 < n
  · go_enter Tryz.func3, Tryz.ntmps3
    go_wp2
    go_ret
    exact ⟨rfl, Below.refl _ _⟩
  have HA := Lib.hid hA
  have HN := Lib.hid hn
  have HB := Lib.hid hb
  have HC := Lib.hid hc
  have h00 : ((0 : Int) == 0) = true := rfl
  have HM := Lib.hid (Moved.refl w [])
  clear hA hn hb hc
  go_enter Tryz.func3, Tryz.ntmps3
  go_wp2_with fail
  refine (read_rec A n c xs _ (nrowx_moved HA.out HM.out (by simp)) HN.out HB.out HC.out (by omega)).mono ?_
  rintro e1 w11 ⟨us, d, rfl, hul, huo, hm1, hf⟩
  have HIA := Lib.hid (show (Tryz.prog.info? 34).map (·.size) = some us.toArray.size by rw [List.size_toArray, hul]; kernel_rfl)
  have HIU := Lib.hid (show (Tryz.prog.info? 34).map (·.size) = some us.length by rw [hul]; kernel_rfl)
  have HV := Lib.hid (show 24 = us.toArray.size by rw [List.size_toArray, hul])
  have HO := Lib.hid (show us.toArray.all (·.oneCell') = true by rw [List.all_toArray]; exact huo)
  have HM := Lib.hid (HM.out.trans hm1 (by simp))
  have HF := Lib.hid hf
  clear hul huo hm1 hf
  go_upto_if 25 with (refine wpList_store_new rfl 34 _ _ rfl _ us.toArray rfl rfl HIA.out HV.out HO.out ?_)
  go_cut [5, 6] from 26 to 38 (fun a b W => Moved w W [])
  case first =>
    by_cases hd : d = 0
    · subst hd
      obtain ⟨ds, h1, h2, h3⟩ := HF.out rfl
      have hT := top_rec us ds (w11.alloc (.cells us.toArray 34)) (h1.moved ((Moved.refl _ []).alloc _))
      rw [err_right h2, out_right h2, ← h3] at hT
      have HT := Lib.hid hT
      clear hT h1 h2 h3
      go_wp2_with (refine wpList_load_mid rfl 34 _ rfl w11.heap.size 0 rfl us _ (range_new w11 us 34) Tryz.underlying34 rfl HIU.out ?_)
      refine HT.out.mono ?_
      rintro e2 w12 ⟨v, rfl, hown, hst⟩
      obtain ⟨A2, c2, rfl, hA2, -⟩ := own_nrow hown
      have hm2 : Moved w w12 [] := (HM.out.alloc _).trans hst.1 (by simp)
      have HA2 := Lib.hid hA2
      have HM2 := Lib.hid hm2
      clear hown hst hA2 hm2
      go_wp2_with fail
      refine (bytes_is A2 A xs.length n c2 c xs xs _ (by exact HA2.out) (nrowx_moved HA.out HM2.out (by simp)) rfl HN.out HB.out HB.out true (by simp)).mono ?_
      rintro e3 w3 ⟨rfl, rfl⟩
      go_wp2_with fail
      go_meet
      case rel => exact HM2.out
    · have hdn : (d == 0) = false := by simpa using hd
      go_wp2_with fail
      go_meet
      case rel => exact HM.out.alloc _
  case rest =>
    have HM := Lib.hid hcut
    clear hcut
    go_wp2_with fail
    refine (read_bundle A n c xs _ (nrowx_moved HA.out HM.out (by simp)) HN.out HB.out HC.out (by omega)).mono ?_
    rintro e2 w21 ⟨Ar, nr, cr, d, rfl, hm1, hf⟩
    have HM := Lib.hid (HM.out.trans hm1 (by simp))
    have HF := Lib.hid hf
    clear hm1 hf
    go_upto_if 45 with fail
    go_cut [8, 9] from 46 to 58 (fun a b W => Moved w W [])
    case first =>
      by_cases hd : d = 0
      · subst hd
        obtain ⟨rows, h1, h2, h3⟩ := HF.out rfl
        have hT := top_bundle Ar nr cr rows w21 h1
        rw [wr_right _ _ h2, List.nil_append, ← h3] at hT
        have HT := Lib.hid (show Calls Tryz.prog 8 #[.slice Ar nr cr] w21 (Told xs 0 w21) from hT)
        clear hT h1 h2 h3
        go_wp2_with fail
        refine HT.out.mono ?_
        rintro e2 w22 ⟨v, rfl, hown, hst⟩
        obtain ⟨A2, c2, rfl, hA2, -⟩ := own_nrow hown
        have hm2 : Moved w w22 [] := HM.out.trans hst.1 (by simp)
        have HA2 := Lib.hid hA2
        have HM2 := Lib.hid hm2
        clear hown hst hA2 hm2
        go_wp2_with fail
        refine (bytes_is A2 A xs.length n c2 c xs xs _ (by exact HA2.out) (nrowx_moved HA.out HM2.out (by simp)) rfl HN.out HB.out HB.out true (by simp)).mono ?_
        rintro e3 w3 ⟨rfl, rfl⟩
        go_wp2_with fail
        go_meet
        case rel => exact HM2.out
      · have hdn : (d == 0) = false := by simpa using hd
        go_wp2_with fail
        go_meet
        case rel => exact HM.out
    case rest =>
      have HM := Lib.hid hcut
      clear hcut
      go_wp2_with fail
      refine (read_frame A n c xs _ (nrowx_moved HA.out HM.out (by simp)) HN.out HB.out HC.out (by omega)).mono ?_
      rintro e3 w31 ⟨us, d, rfl, hul, huo, hm1, hf⟩
      have HIA := Lib.hid (show (Tryz.prog.info? 46).map (·.size) = some us.toArray.size by rw [List.size_toArray, hul]; kernel_rfl)
      have HIU := Lib.hid (show (Tryz.prog.info? 46).map (·.size) = some us.length by rw [hul]; kernel_rfl)
      have HV := Lib.hid (show 7 = us.toArray.size by rw [List.size_toArray, hul])
      have HO := Lib.hid (show us.toArray.all (·.oneCell') = true by rw [List.all_toArray]; exact huo)
      have HM := Lib.hid (HM.out.trans hm1 (by simp))
      have HF := Lib.hid hf
      clear hul huo hm1 hf
      go_upto_if 65 with (refine wpList_store_new rfl 46 _ _ rfl _ us.toArray rfl rfl HIA.out HV.out HO.out ?_)
      go_cut [11, 12] from 66 to 78 (fun a b W => Moved w W [])
      case first =>
        by_cases hd : d = 0
        · subst hd
          obtain ⟨ds, h1, h2, h3⟩ := HF.out rfl
          have hT := top_frame us ds (w31.alloc (.cells us.toArray 46)) (h1.moved ((Moved.refl _ []).alloc _))
          rw [err_right h2, out_right h2, ← h3] at hT
          have HT := Lib.hid hT
          clear hT h1 h2 h3
          go_wp2_with (refine wpList_load_mid rfl 46 _ rfl w31.heap.size 0 rfl us _ (range_new w31 us 46) Tryz.underlying46 rfl HIU.out ?_)
          refine HT.out.mono ?_
          rintro e2 w32 ⟨v, rfl, hown, hst⟩
          obtain ⟨A2, c2, rfl, hA2, -⟩ := own_nrow hown
          have hm2 : Moved w w32 [] := (HM.out.alloc _).trans hst.1 (by simp)
          have HA2 := Lib.hid hA2
          have HM2 := Lib.hid hm2
          clear hown hst hA2 hm2
          go_wp2_with fail
          refine (bytes_is A2 A xs.length n c2 c xs xs _ (by exact HA2.out) (nrowx_moved HA.out HM2.out (by simp)) rfl HN.out HB.out HB.out true (by simp)).mono ?_
          rintro e3 w3 ⟨rfl, rfl⟩
          go_wp2_with fail
          go_meet
          case rel => exact HM2.out
        · have hdn : (d == 0) = false := by simpa using hd
          go_wp2_with fail
          go_meet
          case rel => exact HM.out.alloc _
      case rest =>
        have HM := Lib.hid hcut
        clear hcut
        go_wp2_with fail
        refine (read_state A n c xs _ (nrowx_moved HA.out HM.out (by simp)) HN.out HB.out HC.out (by omega)).mono ?_
        rintro e4 w41 ⟨us, d, rfl, hul, huo, hm1, hf⟩
        have HIA := Lib.hid (show (Tryz.prog.info? 55).map (·.size) = some us.toArray.size by rw [List.size_toArray, hul]; kernel_rfl)
        have HIU := Lib.hid (show (Tryz.prog.info? 55).map (·.size) = some us.length by rw [hul]; kernel_rfl)
        have HV := Lib.hid (show 12 = us.toArray.size by rw [List.size_toArray, hul])
        have HO := Lib.hid (show us.toArray.all (·.oneCell') = true by rw [List.all_toArray]; exact huo)
        have HM := Lib.hid (HM.out.trans hm1 (by simp))
        have HF := Lib.hid hf
        clear hul huo hm1 hf
        go_upto_if 85 with (refine wpList_store_new rfl 55 _ _ rfl _ us.toArray rfl rfl HIA.out HV.out HO.out ?_)
        go_cut [14, 15] from 86 to 98 (fun a b W => Moved w W [])
        case first =>
          by_cases hd : d = 0
          · subst hd
            obtain ⟨ds, h1, h2, h3⟩ := HF.out rfl
            have hT := top_state us ds (w41.alloc (.cells us.toArray 55)) (h1.moved ((Moved.refl _ []).alloc _))
            rw [err_right h2, out_right h2, ← h3] at hT
            have HT := Lib.hid hT
            clear hT h1 h2 h3
            go_wp2_with (refine wpList_load_mid rfl 55 _ rfl w41.heap.size 0 rfl us _ (range_new w41 us 55) Tryz.underlying55 rfl HIU.out ?_)
            refine HT.out.mono ?_
            rintro e2 w42 ⟨v, rfl, hown, hst⟩
            obtain ⟨A2, c2, rfl, hA2, -⟩ := own_nrow hown
            have hm2 : Moved w w42 [] := (HM.out.alloc _).trans hst.1 (by simp)
            have HA2 := Lib.hid hA2
            have HM2 := Lib.hid hm2
            clear hown hst hA2 hm2
            go_wp2_with fail
            refine (bytes_is A2 A xs.length n c2 c xs xs _ (by exact HA2.out) (nrowx_moved HA.out HM2.out (by simp)) rfl HN.out HB.out HB.out true (by simp)).mono ?_
            rintro e3 w3 ⟨rfl, rfl⟩
            go_wp2_with fail
            go_meet
            case rel => exact HM2.out
          · have hdn : (d == 0) = false := by simpa using hd
            go_wp2_with fail
            go_meet
            case rel => exact HM.out.alloc _
        case rest =>
          have HM := Lib.hid hcut
          clear hcut
          go_wp2_with fail
          refine (wakes_ _).mono ?_
          rintro e9 w9 ⟨rfl, hm9⟩
          have HM := Lib.hid (HM.out.trans hm9 (by simp))
          clear hm9
          go_wp2
          go_ret
          exact ⟨rfl, HM.out.below (Nat.le_refl _) (by simp)⟩
end Wi
end Go.Proofs.YtpghaffjfinpeaaGreat
