/-
  CONTRACT of wire.Bundle. (wip/gen_wire.py wrote this.)
-/
import Derived.Test.YtpghaffjfinpeabWireAll
import Derived.Test.YtpghaffjfinpeabWireLmsg
namespace Go.Proofs.Ytpghaffjfinpeab
namespace Wi
open Go.RowKit Pk Am
set_option maxRecDepth 100000 in
set_option maxHeartbeats 1000000 in
theorem top_bundle (A : Option Addr) (n c : Nat) (rows : List (List Dat)) (w : World) (hd : Holds w w.heap.size (.list 16 Kmsg) (.slice A n c) (.list 16 rows)) :
    Calls Try.prog 5 #[.slice A n c] w (Told (wrD (.list 16 rows) ⟨.ok [], false⟩).out (wrD (.list 16 rows) ⟨.ok [], false⟩).err w) := by
  have HO0 := Lib.hid (WW.new w.heap.size w (Nat.le_refl _))
  have hS0 : Step w (w.alloc (.cells #[.slice none 0 0, .int .i64 0, .pointer none, .bool false] 54)) [] [w.heap.size] := ⟨(Moved.refl w []).alloc _, fun k hk => .inr (by simp at hk; omega)⟩
  have HD := Lib.hid (Holds.stays (Nat.le_refl _) (fun k hk => hS0.1.block k hk (by simp)) _ _ _ hd)
  have HS0 := Lib.hid hS0
  have hmf : ∀ (fn : Fn) (first cap : Array Value) (w : World), (Instr.makeFunc fn first cap).run Try.prog w = .ok (.func fn first cap) w := fun _ _ _ _ => rfl
  clear hS0 hd
  go_enter Try.func5, Try.ntmps5
  go_wp2_with fail
  refine (p_list_msg w.heap.size w.heap.size [w.heap.size] _ 0 16 _ A n c rows _ (by exact HO0.out) HD.out (by rfl) (by omega)).mono ?_
  rintro e1 w1 ⟨rfl, fq1, hO1, hS1⟩
  have HO1 := Lib.hid (hO1.more (m' := 6890) (by omega))
  have HS1 := Lib.hid hS1
  clear hO1 hS1
  go_wp2_with fail
  refine (all_any w.heap.size w.heap.size fq1 _ 6890 _ (by exact HO1.out) (by omega)).mono ?_
  rintro e2 w2 hT
  obtain ⟨v, rfl, hown, hst⟩ := Told.of HS1.out HS0.out hT
  have HN := Lib.hid hown
  have HST := Lib.hid hst
  clear hown hst hT
  go_wp2
  go_ret2
  exact ⟨v, rfl, HN.out, HST.out⟩
end Wi
end Go.Proofs.Ytpghaffjfinpeab
