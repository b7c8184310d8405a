/-
  3 texts in one: WireTreply, WireWakes, KeepBytesIs.
-/
import Derived.Test.YtpghaffjfinpeaaGreatKWireOnly06
import Derived.Test.YtpghaffjfinpeaaGreatKWireOnly44
import Derived.Test.YtpghaffjfinpeaaGreatKWireOnly07
import Derived.Test.YtpghaffjfinpeaaGreatKWireOnly01

/-
  CONTRACT of wire.Reply. (wip/gen_wire.py wrote this.)
-/
namespace Go.Proofs.YtpghaffjfinpeaaGreat
namespace Wi
open Go.RowKit Pk Am
set_option maxRecDepth 100000 in
set_option maxHeartbeats 1000000 in
theorem top_reply (vs : List Value) (ds : List Dat) (w : World) (hd : HoldsAll w w.heap.size Kreply vs ds) :
    Calls Tryz.prog 30 #[.agg vs.toArray] w (Told (wrs ds ⟨.ok [], false⟩).out (wrs ds ⟨.ok [], false⟩).err w) := by
  have hlen : vs.length = 7 := hd.len.1
  have hsz : (w.alloc (.cells vs.toArray 89)).heap.size = w.heap.size + 1 := by simp
  have hO0 := WW.new w.heap.size (w.alloc (.cells vs.toArray 89)) (by omega)
  rw [hsz] at hO0
  have HO0 := Lib.hid hO0
  have hS0 : Step w ((w.alloc (.cells vs.toArray 89)).alloc (.cells #[.slice none 0 0, .int .i64 0, .pointer none, .bool false] 70)) [] [w.heap.size + 1] := ⟨((Moved.refl w []).alloc _).alloc _, fun k hk => .inr (by simp at hk; omega)⟩
  have HD := Lib.hid (HoldsAll.stays (Nat.le_refl _) (fun k hk => hS0.1.block k hk (by simp)) _ _ _ hd)
  have HS0 := Lib.hid hS0
  have HI := Lib.hid (show (Tryz.prog.info? 89).map (·.size) = some vs.length by rw [hlen]; kernel_rfl)
  have HR := Lib.hid (show ((w.alloc (.cells vs.toArray 89)).alloc (.cells #[.slice none 0 0, .int .i64 0, .pointer none, .bool false] 70)).rangeAt w.heap.size 0 vs from fun j v hv => by
    rw [World.cell?_alloc_lt _ _ _ (by simp)]; exact range_new _ _ _ j v hv)
  clear hlen hsz hO0 hS0 hd
  go_enter Tryz.func30, Tryz.ntmps30
  go_wp2_with (refine wpList_load_mid rfl 89 _ rfl w.heap.size 0 rfl vs _ HR.out Tryz.underlying89 rfl HI.out ?_)
  refine (p_reply w.heap.size (w.heap.size + 1) [w.heap.size + 1] _ 0 vs ds _ (by exact HO0.out) HD.out (by omega)).mono ?_
  rintro e1 w1 ⟨rfl, fq1, hO1, hS1⟩
  have HO1 := Lib.hid (hO1.more (m' := 70) (by omega))
  have HS1 := Lib.hid hS1
  clear hO1 hS1
  go_wp2_with fail
  refine (all_any w.heap.size (w.heap.size + 1) fq1 _ 70 _ (by exact HO1.out) (by omega)).mono ?_
  rintro e2 w2 hT
  obtain ⟨v, rfl, hown, hst⟩ := Told.of HS1.out HS0.out hT
  have HN := Lib.hid hown
  have HST := Lib.hid hst
  clear hown hst hT
  go_wp2
  go_ret2
  exact ⟨v, rfl, HN.out, HST.out⟩
end Wi
end Go.Proofs.YtpghaffjfinpeaaGreat

/-
  CONTRACT of the statements' helper wakes of hanselaw05.
-/
namespace Go.Proofs.YtpghaffjfinpeaaGreat
namespace Wi
open Go.RowKit Pk Am
theorem encDs_reply : encDs (Kreply.map zeroD) = [0, 0, 0, 0, 0, 0, 0] := by
  have h : enc (zig 0) = [0] := by rw [show zig 0 = 0 by decide, enc_low (by omega)]; rfl
  simp only [List.map_cons, List.map_nil, zeroD, encDs, encD, h, List.append_nil, List.cons_append, List.nil_append]
set_option maxRecDepth 100000 in
set_option maxHeartbeats 1000000 in
theorem wakes_ (w : World) : Calls Tryz.prog 13 #[] w fun e w' => e = .returned (.bool true) ∧ Moved w w' [] := by
  have hs : ((strOfNums [0, 0, 0, 0, 0, 0, 0]).toList == [0, 0, 0, 0, 0, 0, 0]) = true := by rw [ByteArray.toList_eq, strOfNums_data]; rfl
  have hd := zero_all w w.heap.size Kreply
  have hT0 := top_reply _ _ w hd
  rw [err_right (zeros_right _), out_right (zeros_right _), encDs_reply] at hT0
  have HT := Lib.hid hT0
  clear hT0 hd
  go_enter Tryz.func13, Tryz.ntmps13
  go_wp2_with fail
  refine (HT.out).mono ?_
  rintro e w1 ⟨v, rfl, hown, hS⟩
  have hown : w1.ownsRow 0 5 1 v 7 ([0, 0, 0, 0, 0, 0, 0].map (Value.int .u8)) := hown
  obtain ⟨A, c, rfl, -⟩ := own_shape hown
  have hcv := run_convert_nrow (P := Tryz.prog) w1 22 9 5 Tryz.underlying22 Tryz.underlying5 Tryz.underlying9 A 7 c [0, 0, 0, 0, 0, 0, 0] (NRow.of_own hown) rfl
  have HM := Lib.hid hS.1
  clear hown hS
  go_wp2
  go_ret
  exact ⟨rfl, HM.out⟩
end Wi
end Go.Proofs.YtpghaffjfinpeaaGreat

/-
  CONTRACT of hansekeep.Bytes.
-/
namespace Go.Proofs.YtpghaffjfinpeaaGreat
open Go.RowKit
set_option maxRecDepth 100000 in
theorem bytes_any (A B : Option Addr) (n m c d : Nat) (xs ys : List Int) (w : World) (hA : NRow .u8 w A xs) (hB : NRow .u8 w B ys) (hn : xs.length = n) (hm : ys.length = m) :
    Calls Tryz.prog 6 #[.slice A n c, .slice B m d] w fun e w' => e = .returned (.bool ((strOfNums xs).toList == (strOfNums ys).toList)) ∧ w = w' := by
  have h1 := run_convert_nrow (P := Tryz.prog) w 22 9 5 Tryz.underlying22 Tryz.underlying5 Tryz.underlying9 A n c xs hA hn
  have h2 := run_convert_nrow (P := Tryz.prog) w 22 9 5 Tryz.underlying22 Tryz.underlying5 Tryz.underlying9 B m d ys hB hm
  clear hA hB hn hm
  go_enter Tryz.func6, Tryz.ntmps6
  go_wp2
  go_ret
  exact ⟨rfl, rfl⟩
theorem bytes_is (A B : Option Addr) (n m c d : Nat) (xs ys : List Int) (w : World) (hA : NRow .u8 w A xs) (hB : NRow .u8 w B ys) (hn : xs.length = n) (hm : ys.length = m) (bx : ByteList xs) (by_ : ByteList ys) (b : Bool) (hb : decide (xs = ys) = b) :
    Calls Tryz.prog 6 #[.slice A n c, .slice B m d] w fun e w' => e = .returned (.bool b) ∧ w = w' := by
  have h : ((strOfNums xs).toList == (strOfNums ys).toList) = b := by
    rw [← hb, Bool.eq_iff_iff]
    simp only [beq_iff_eq, decide_eq_true_eq]
    exact ⟨fun h => strOfNums_inj bx by_ (by
      rw [ByteArray.toList_eq, ByteArray.toList_eq] at h
      exact ByteArray.ext (Array.toList_inj.1 h)), fun h => by rw [h]⟩
  rw [← h]
  exact bytes_any A B n m c d xs ys w hA hB hn hm
end Go.Proofs.YtpghaffjfinpeaaGreat
