/-
  CONTRACT of the statements' helper wakes of hanselaw05.
-/
import Derived.Test.YtpghaffjfinpeabWireTreply
import Derived.Test.YtpghaffjfinpeabWireZero
namespace Go.Proofs.Ytpghaffjfinpeab
namespace Wi
open Go.RowKit Pk Am
theorem encDs_reply : encDs (Kreply.map zeroD) = [0, 0, 0, 0, 0, 0, 0] := by
  have h : enc (zig 0) = [0] := by rw [show zig 0 = 0 by decide, enc_low (by omega)]; rfl
  simp only [List.map_cons, List.map_nil, zeroD, encDs, encD, h, List.append_nil, List.cons_append, List.nil_append]
set_option maxRecDepth 100000 in
set_option maxHeartbeats 1000000 in
theorem wakes_ (w : World) : Calls Try.prog 7 #[] w fun e w' => e = .returned (.bool true) ∧ Moved w w' [] := by
  have hs : ((strOfNums [0, 0, 0, 0, 0, 0, 0]).toList == [0, 0, 0, 0, 0, 0, 0]) = true := by rw [ByteArray.toList_eq, strOfNums_data]; rfl
  have hd := zero_all w w.heap.size Kreply
  have hT0 := top_reply _ _ w hd
  rw [err_right (zeros_right _), out_right (zeros_right _), encDs_reply] at hT0
  have HT := Lib.hid hT0
  clear hT0 hd
  go_enter Try.func7, Try.ntmps7
  go_wp2_with fail
  refine (HT.out).mono ?_
  rintro e w1 ⟨v, rfl, hown, hS⟩
  have hown : w1.ownsRow 0 5 1 v 7 ([0, 0, 0, 0, 0, 0, 0].map (Value.int .u8)) := hown
  obtain ⟨A, c, rfl, -⟩ := own_shape hown
  have hcv := run_convert_nrow (P := Try.prog) w1 35 9 5 Try.underlying35 Try.underlying5 Try.underlying9 A 7 c [0, 0, 0, 0, 0, 0, 0] (NRow.of_own hown) rfl
  have HM := Lib.hid hS.1
  clear hown hS
  go_wp2
  go_ret
  exact ⟨rfl, HM.out⟩
end Wi
end Go.Proofs.Ytpghaffjfinpeab
