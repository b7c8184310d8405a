/-
  1 texts in one: WireLuse.
-/
import Derived.Test.YtpghaffjfinpeaaGreatKWireOnly06
import Derived.Test.YtpghaffjfinpeaaGreatKWireOnly04
import Derived.Test.YtpghaffjfinpeaaGreatKWireOnly40

/-
  CONTRACT of wire.putList[hanse/api.Use]. (wip/gen_wire.py wrote this.)
-/
namespace Go.Proofs.YtpghaffjfinpeaaGreat
namespace Wi
open Go.RowKit Pk Am
set_option maxRecDepth 100000 in
set_option maxHeartbeats 2000000 in
theorem p_list_use (b p : Nat) (fp : List Nat) (x : Ws) (m most : Nat) (M : Int) (A : Option Addr) (n c : Nat) (rows : List (List Dat)) (w : World) (hW : WW b w p fp x m) (hH : Holds w b (.list most Kuse) (.slice A n c) (.list most rows)) (hM : M = (most : Int)) (hm : m + (10 + most * 30) ≤ 35184370000000) :
    Calls Tryz.prog 73 #[.pointer (some ⟨p, 0, none⟩), .slice A n c, .int .i64 M, .func (.func 74) #[.pointer (some ⟨p, 0, none⟩)] #[]] w (Puts b p fp (wrD (.list most rows) x) (m + (10 + most * 30)) w) := by
  subst hM
  obtain ⟨hcount, hn45⟩ := hH.count
  have HC := Lib.hid hcount
  clear hcount
  by_cases hgt : most < n
  · obtain ⟨c0, c1, c2, hblk⟩ := hW.obj.blk
    have k3 := cell_at hblk 3 (v := .bool x.t) rfl
    have f3 := free_at hblk 3
    have HL := Lib.hid (show wrD (.list most rows) x = x.long by rw [wrD, if_pos (by rw [HC.out]; exact hgt)])
    have HW := Lib.hid hW
    clear hW hH hblk
    go_enter Tryz.func73, Tryz.ntmps73
    go_wp2
    go_end0
    exact ⟨rfl, fp, by rw [HL.out]; exact ⟨HW.out.obj.long.more (by omega), HW.out.far⟩, (Moved.refl _ _).setCell (.inl HW.out.obj.mem) _, fun _ h => .inl h⟩
  · have hU := Lib.hid (show wrD (.list most rows) x = wrRows rows (x.put (enc n)) by rw [wrD, if_neg (by rw [HC.out]; exact hgt), HC.out])
    have HH := Lib.hid hH
    have HW := Lib.hid hW
    clear hH hW
    go_enter Tryz.func73, Tryz.ntmps73
    go_wp2_with fail
    refine (p_uint b p fp x m n _ (by exact HW.out) (by omega) (by omega)).mono ?_
    rintro e1 w1 ⟨rfl, fq1, hO1, hS1⟩
    have HO1 := Lib.hid hO1
    have HS1 := Lib.hid hS1
    clear hO1 hS1
    go_wp2
    go_loopw [26] (fun i W => ∃ (k : Nat) (cur : Ws) (fq : List Nat), i = .int .i64 k ∧ k ≤ n ∧ Hid (cur = wrRows (rows.take k) (x.put (enc n))) ∧ WW b W p fq cur (m + 10 + k * 30) ∧ Step w W fp fq) (fun i _ => n - (intOf i).toNat)
    case atStart => exact ⟨0, _, fq1, rfl, Nat.zero_le _, by show _ = _; rw [List.take_zero, wrRows], by rw [Nat.zero_mul]; exact HO1.out, HS1.out⟩
    case round =>
      obtain ⟨k, cur, fq, rfl, hk, H, hO, hS⟩ := hrel
      have HS := Lib.hid hS
      have HO := Lib.hid hO
      clear hS hO HO1 HS1
      have hb0 : k * 30 ≤ most * 30 := Nat.mul_le_mul_right _ (by omega)
      by_cases hlt : k < n
      · have hb1 : k * 30 + 30 ≤ most * 30 := by rw [← Nat.succ_mul]; exact Nat.mul_le_mul_right _ (by omega)
        obtain ⟨r, hr⟩ : ∃ r, rows[k]? = some r := ⟨rows[k]'(by rw [HC.out]; exact hlt), List.getElem?_eq_getElem _⟩
        have HN := Lib.hid ((congrArg (wrs r) H.out).trans (wrRows_take hr _).symm)
        obtain ⟨g, off, vs, rfl, hg, hcell, hall⟩ := HH.out.elem hr
        clear hr H
        have hall' := HoldsAll.stays_in HW.out HS.out hall
        have hBel := HW.out.below HS.out
        have hlen : vs.length = 3 := hall.len.1
        have HR := Lib.hid (show wr.rangeAt g (off + k * 3) vs from fun j v hv => (hBel.cell hg).trans (hcell j v hv))
        have HI := Lib.hid (show (Tryz.prog.info? 138).map (·.size) = some vs.length by rw [hlen]; kernel_rfl)
        have H1 := Lib.hid (show vs.toArray.all (·.oneCell') = true by rw [List.all_toArray]; exact HoldsAll.one _ _ _ hall)
        have HZ := Lib.hid (show 3 = vs.toArray.size by rw [List.size_toArray, hlen])
        have HA := Lib.hid hall'
        clear hall hall' hcell hBel hlen
        go_wp2_with (first
          | (refine wpList_load_mid rfl 138 _ rfl g (off + k * 3) rfl vs _ HR.out Tryz.underlying138 rfl HI.out ?_)
          | (refine wpList_store_new rfl 138 _ _ rfl _ vs.toArray rfl rfl HI.out HZ.out H1.out ?_)
          | (refine wpList_load_mid rfl 138 _ rfl wr.heap.size 0 rfl vs _ (range_new _ _ _) Tryz.underlying138 rfl HI.out ?_))
        refine (p_use b p fq cur (m + 10 + k * 30) vs _ _ (by exact HO.out.alloc _) (HoldsAll.stays_in HO.out (step_alloc _ _ fq) HA.out) (by omega)).mono ?_
        rintro e2 w2 ⟨rfl, fq2, hO2, hS2⟩
        have HO2 := Lib.hid hO2
        have HS2 := Lib.hid (HS.out.trans ((step_alloc _ _ _).trans hS2))
        clear hO2 hS2
        go_wp2
        go_roundw
        case rel => exact ⟨k + 1, _, fq2, by go_num, by omega, HN.out, by rw [Nat.succ_mul]; exact HO2.out.more (by omega), HS2.out⟩
        case measure => simp [intOf]; omega
      · obtain rfl : k = n := by omega
        go_wp2
        go_end0
        refine ⟨rfl, fq, ?_, HS.out⟩
        rw [hU.out]
        have h := HO.out
        rw [H.out, ← HC.out, List.take_length] at h
        rw [HC.out] at h
        exact h.more (by omega)
end Wi
end Go.Proofs.YtpghaffjfinpeaaGreat
