/-
  CONTRACT of hanselaw06's wakes.
-/
import Derived.Test.YtcajljpdflginaaDiskAt
namespace Go.Proofs.Ytcajljpdflginaa
namespace Dk
open Go.RowKit
set_option maxRecDepth 100000 in
set_option maxHeartbeats 1000000 in
theorem wakes_any {D : World → Nat → List Nat → DSt → Nat → Prop} (L : DLaws D) (W : World) : Calls Try.prog 13 #[] W fun e w' => e = .returned (.bool true) ∧ Moved W w' [] := by
  have kc := fun (w : World) (C : Array Value) (n c : Nat) => Lib.run_convert_bytes_const (P := Try.prog) w 27 5 C n c Try.underlying27 Try.underlying5
  go_enter Try.func13, Try.ntmps13
  go_wp2_with fail
  refine (At.new_ L W).mono ?_
  rintro e w1 ⟨p, f1, rfl, h1⟩
  have H1 := Lib.hid h1
  clear h1
  go_wp2_with fail
  refine ((H1.out.again L _).append_ L (mark_lent L H1.out.on _ (by omega)) (e := 0) (s' := ⟨[97], 0, false, none⟩) rfl rfl (by omega)).mono ?_
  rintro e w2 ⟨rfl, f2, h2⟩
  have H2 := Lib.hid h2
  clear h2
  go_wp2_with fail
  refine (H2.out.sync L (e := 0) (s' := ⟨[97], 1, false, none⟩) rfl (by omega)).mono ?_
  rintro e w3 ⟨rfl, f3, h3⟩
  have H3 := Lib.hid h3
  clear h3
  go_wp2_with fail
  refine ((H3.out.again L _).append_ L (mark_lent L H3.out.on _ (by omega)) (e := 0) (s' := ⟨[97, 98], 1, false, none⟩) rfl rfl (by omega)).mono ?_
  rintro e w4 ⟨rfl, f4, h4⟩
  have H4 := Lib.hid h4
  clear h4
  go_wp2_with fail
  refine (H4.out.synced L (k := 1) rfl (by omega)).mono ?_
  rintro e w5 ⟨rfl, f5, h5⟩
  have H5 := Lib.hid h5.old
  clear h5
  go_wp2
  go_ret
  exact ⟨rfl, H5.out⟩
end Dk
end Go.Proofs.Ytcajljpdflginaa
