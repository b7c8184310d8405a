/-
  (The Writer within a wire.writer, whose mark is t.)
  CONTRACT of (*pack.Writer).Amount; what the statements' walks ask of the Writer is had.
-/
import Derived.Test.YtpghaffjfinpeabWireInt
import Derived.Test.YtpghaffjfinpeabAmtParts
namespace Go.Proofs.Ytpghaffjfinpeab
namespace Wi
open Go.RowKit Pk Am
variable {t : Bool}
set_option maxRecDepth 100000 in
set_option maxHeartbeats 1000000 in
theorem wamount_any (p : Nat) (fp : List Nat) (s : WSt) (m n l : Nat) (w : World) (hW : WObj t w p fp s m) (hn : n ≤ 1048576) (hl : l ≤ 1048576) (hm : m ≤ 35184372088832) :
    Calls Try.prog 26 #[.pointer (some ⟨p, 0, none⟩), amt n l] w (Wrote (WObj t) p fp (s.put (enc n ++ enc l)) (m + 20) w) := by
  have HW := Lib.hid hW
  have HP := Lib.hid (fun w => parts_any hn hl w)
  clear hW
  obtain ⟨W, hAW⟩ : ∃ W, W = floatOfInt .f64 (n : Int) := ⟨_, rfl⟩
  obtain ⟨V, hAV⟩ : ∃ V, V = floatOfInt .f64 (l : Int) := ⟨_, rfl⟩
  rw [amt] at HP ⊢
  rw [← hAW, ← hAV] at HP ⊢
  clear hAW hAV
  go_enter Try.func26, Try.ntmps26
  go_wp2_with fail
  refine (HP.out _).mono ?_
  rintro e w1 ⟨rfl, rfl⟩
  go_wp2_with fail
  refine (wuint_any p fp s m n _ HW.out (by omega) (by omega)).mono ?_
  rintro e w1 ⟨rfl, f1, hO1, hS1⟩
  have HO1 := Lib.hid hO1
  have HS1 := Lib.hid hS1
  clear hO1 hS1
  go_wp2_with fail
  refine (wuint_any p f1 _ (m + 10) l _ HO1.out (by omega) (by omega)).mono ?_
  rintro e w2 ⟨rfl, f2, hO2, hS2⟩
  have HO2 := Lib.hid hO2
  have HS2 := Lib.hid (HS1.out.trans hS2)
  clear hO2 hS2
  go_wp2
  go_end0
  exact ⟨rfl, f2, by rw [← put_put]; exact HO2.out, HS2.out⟩
end Wi
end Go.Proofs.Ytpghaffjfinpeab
