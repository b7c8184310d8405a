/-
  CONTRACT of hanselaw07's wakes, from what is asked of the program's Log.
-/
import Derived.Test.YtekleamkpfeifaaDoorKB04
import Derived.Test.YtekleamkpfeifaaDoorKB02
import Derived.Deep.RegionHeld3
import Derived.Lib.SlBytesConst
namespace Go.Proofs.YtekleamkpfeifaaDoor
namespace Lg
open Go.RowKit Dk Fr
theorem open_new (k : Nat) : openSt ⟨[], k, false, none⟩ = (0, ⟨[], k, false, none⟩) := by
  unfold openSt
  rw [if_neg (by simp), if_neg (by simp)]
theorem mark_row {w : World} {fp : List Nat} {x : Int} (hl : ∀ k ∈ fp, k < w.heap.size) (e : TypeId) (hx : 0 ≤ x ∧ x ≤ 255) :
    Lent (w.alloc (.cells #[.int .u8 x] e (1, 2))) fp (some ⟨w.heap.size, 0, none⟩) 1 1 [x] := by
  refine ⟨fun i y hy => ?_, rfl, fun h => (by cases h), by omega, fun y hy => by simp at hy; omega, fun k hk hf => ?_⟩
  · rcases i with _ | i
    · simp at hy
      subst hy
      exact ⟨w.heap.size, 0, rfl, by rw [cell_of_row _ _ _ _ _ _ (heap_alloc_new w _)]; rfl⟩
    · simp at hy
  · have := hl k hf
    have : k = w.heap.size := by simpa [rowX, eq_comm] using hk
    omega
theorem LAt.below {D : World → Nat → List Nat → DSt → Nat → Prop} {G : World → Nat → Nat → List Nat → List Int → List (List Int) → Nat → Prop} (L : LLaws D G) {W w : World} {p l : Nat} {fd fl : List Nat} {s : DSt} {sn : List Int} {rs : List (List Int)} {m : Nat} (h : LAt D G W w p l fd fl s sn rs m) : ∀ k ∈ fd ++ fl, k < w.heap.size := fun k hk => (List.mem_append.1 hk).elim (L.disk.lt h.disk k) (L.lt h.log k)
set_option maxRecDepth 100000 in
set_option maxHeartbeats 2000000 in
theorem wakes_any {D : World → Nat → List Nat → DSt → Nat → Prop} {G : World → Nat → Nat → List Nat → List Int → List (List Int) → Nat → Prop} (L : LLaws D G) (W : World) (hld : Ld W) : Calls Tryd.prog 32 #[] W fun e w' => e = .returned (.bool true) ∧ Moved W w' [] := by
  have HLD := Lib.hid hld
  have kc := fun (w : World) (C : Array Value) (n c : Nat) => Lib.run_convert_bytes_const (P := Tryd.prog) w 27 5 C n c Tryd.underlying27 Tryd.underlying5
  clear hld
  go_enter Tryd.func32, Tryd.ntmps32
  go_wp2_with fail
  refine (At.new_ L.disk W).mono ?_
  rintro e w1 ⟨p, f1, rfl, h1⟩
  have H1 := Lib.hid h1
  clear h1
  go_wp2_with fail
  refine (LAt.open_ L H1.out HLD.out (open_new 0) log_nil (by omega)).mono ?_
  rintro e w2 ⟨l, d2, l2, rfl, h2, -⟩
  have H2 := Lib.hid h2
  clear h2
  go_wp2_with fail
  refine ((H2.out.again L _).append_ L HLD.out (mark_row (by exact H2.out.below L) _ (by omega)) rfl (by omega) (s' := ⟨recFrame [120], 0, false, none⟩) rfl (by omega)).mono ?_
  rintro e w3 ⟨rfl, d3, l3, h3, -⟩
  have H3 := Lib.hid h3
  clear h3
  go_wp2_with fail
  refine (H3.out.sync L rfl (s' := ⟨recFrame [120], (recFrame [120]).length, false, none⟩) rfl (by omega)).mono ?_
  rintro e w4 ⟨rfl, d4, l4, h4, -⟩
  have H4 := Lib.hid h4
  clear h4
  go_wp2_with fail
  refine (H4.out.recs L (by omega)).mono ?_
  rintro e w5 ⟨A5, c5, vs5, l5, f5, rfl, -, hB5, -, -, -, -, h5, -⟩
  have H5 := Lib.hid h5.old
  have HB5 := Lib.hid hB5
  clear h5 hB5
  have hr := (brows_lit (w := w5.alloc (.cells #[.int .u8 120] 5 (1, 2))) 27 [.slice (some ⟨w5.heap.size, 0, none⟩) 1 1] [[120]] #[.slice (some ⟨w5.heap.size, 0, none⟩) 1 1] rfl rfl (fun i v q hv hq => by
    rcases i with _ | i
    · simp at hv hq; subst hv hq; exact bites_lit w5 [120] #[.int .u8 120] 5 (1, 2) rfl (by decide)
    · simp at hv))
  rw [show (w5.alloc (.cells #[.int .u8 120] 5 (1, 2))).heap.size = w5.heap.size + 1 by simp] at hr
  have HR := Lib.hid hr
  clear hr
  have HB6 := Lib.hid ((HB5.out.moved ((Moved.refl w5 []).alloc (.cells #[.int .u8 120] 5 (1, 2))) (fun _ _ h => by cases h)).moved ((Moved.refl _ []).alloc (.cells #[.slice (some ⟨w5.heap.size, 0, none⟩) 1 1] 27)) (fun _ _ h => by cases h))
  have HM6 := Lib.hid ((H5.out.alloc (.cells #[.int .u8 120] 5 (1, 2))).alloc (.cells #[.slice (some ⟨w5.heap.size, 0, none⟩) 1 1] 27))
  have hbl : ∀ p ∈ [[(120 : Int)]], ByteList p := fun p hp => by simp at hp; subst hp; intro x hx; simp at hx; omega
  go_wp2_with fail
  refine (rows_any A5 _ 1 1 _ _ vs5 _ [[120]] [[120]] _ (by exact HB6.out) (by exact HR.out) rfl rfl hbl hbl (by omega) (by omega)).mono ?_
  rintro e w6 ⟨rfl, k6, rfl⟩
  have HM7 := Lib.hid (HM6.out.drewN k6)
  go_wp2
  go_ret
  exact ⟨rfl, HM7.out⟩
end Lg
end Go.Proofs.YtekleamkpfeifaaDoor
