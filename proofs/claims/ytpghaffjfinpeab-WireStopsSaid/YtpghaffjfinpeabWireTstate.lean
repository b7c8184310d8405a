/-
  CONTRACT of wire.State. (wip/gen_wire.py wrote this.)
-/
import Derived.Test.YtpghaffjfinpeabWireAll
import Derived.Test.YtpghaffjfinpeabWirePstate
namespace Go.Proofs.Ytpghaffjfinpeab
namespace Wi
open Go.RowKit Pk Am
set_option maxRecDepth 100000 in
set_option maxHeartbeats 1000000 in
theorem top_state (vs : List Value) (ds : List Dat) (w : World) (hd : HoldsAll w w.heap.size Kstate vs ds) :
    Calls Try.prog 6 #[.agg vs.toArray] w (Told (wrs ds ⟨.ok [], false⟩).out (wrs ds ⟨.ok [], false⟩).err w) := by
  have hlen : vs.length = 12 := hd.len.1
  have hsz : (w.alloc (.cells vs.toArray 46)).heap.size = w.heap.size + 1 := by simp
  have hO0 := WW.new w.heap.size (w.alloc (.cells vs.toArray 46)) (by omega)
  rw [hsz] at hO0
  have HO0 := Lib.hid hO0
  have hS0 : Step w ((w.alloc (.cells vs.toArray 46)).alloc (.cells #[.slice none 0 0, .int .i64 0, .pointer none, .bool false] 54)) [] [w.heap.size + 1] := ⟨((Moved.refl w []).alloc _).alloc _, fun k hk => .inr (by simp at hk; omega)⟩
  have HD := Lib.hid (HoldsAll.stays (Nat.le_refl _) (fun k hk => hS0.1.block k hk (by simp)) _ _ _ hd)
  have HS0 := Lib.hid hS0
  have HI := Lib.hid (show (Try.prog.info? 46).map (·.size) = some vs.length by rw [hlen]; kernel_rfl)
  have HR := Lib.hid (show ((w.alloc (.cells vs.toArray 46)).alloc (.cells #[.slice none 0 0, .int .i64 0, .pointer none, .bool false] 54)).rangeAt w.heap.size 0 vs from fun j v hv => by
    rw [World.cell?_alloc_lt _ _ _ (by simp)]; exact range_new _ _ _ j v hv)
  clear hlen hsz hO0 hS0 hd
  go_enter Try.func6, Try.ntmps6
  go_wp2_with (refine wpList_load_mid rfl 46 _ rfl w.heap.size 0 rfl vs _ HR.out Try.underlying46 rfl HI.out ?_)
  refine (p_state w.heap.size (w.heap.size + 1) [w.heap.size + 1] _ 0 vs ds _ (by exact HO0.out) HD.out (by omega)).mono ?_
  rintro e1 w1 ⟨rfl, fq1, hO1, hS1⟩
  have HO1 := Lib.hid (hO1.more (m' := 2529410) (by omega))
  have HS1 := Lib.hid hS1
  clear hO1 hS1
  go_wp2_with fail
  refine (all_any w.heap.size (w.heap.size + 1) fq1 _ 2529410 _ (by exact HO1.out) (by omega)).mono ?_
  rintro e2 w2 hT
  obtain ⟨v, rfl, hown, hst⟩ := Told.of HS1.out HS0.out hT
  have HN := Lib.hid hown
  have HST := Lib.hid hst
  clear hown hst hT
  go_wp2
  go_ret2
  exact ⟨v, rfl, HN.out, HST.out⟩
end Wi
end Go.Proofs.Ytpghaffjfinpeab
