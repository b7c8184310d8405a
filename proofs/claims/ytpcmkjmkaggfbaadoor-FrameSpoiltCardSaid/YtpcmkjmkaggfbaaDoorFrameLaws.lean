/-
  What the statements' walks ask of package frame; the helper wakes.
-/
import Derived.Test.YtpcmkjmkaggfbaaDoorFrameRefScan
import Derived.Test.YtpcmkjmkaggfbaaDoorFrameLd
import Derived.Lib.SlBytesConst
namespace Go.Proofs.YtpcmkjmkaggfbaaDoor
namespace Fr
open Go.RowKit
structure FLaws : Prop where
  sum : ∀ (A : Option Addr) (n c : Nat) (vs : List Value) (ps : List (List Int)) (w : World), BRows w A vs ps → ps.length = n → (∀ p ∈ ps, ByteList p) → n ≤ 1099511627776 → Ld w →
    Calls Tryd.prog 13 #[.slice A n c] w fun e w' => e = .returned (.int .u32 (sumOf (nats ps.flatten) : Nat)) ∧ ∃ k, w' = w.drewN k
  seal_ : ∀ (A : Option Addr) (n c : Nat) (xs : List Int) (w : World), NRow .u8 w A xs → xs.length = n → ByteList xs → (A = none → c = 0) → n ≤ c → c ≤ 9223372036854775807 → n ≤ 1099511627776 → Ld w →
    Calls Tryd.prog 18 #[.slice A n c] w (ToldB (sealOut xs) (sealErr xs) w)
  first : ∀ (A : Option Addr) (n c : Nat) (xs : List Int) (w : World), NRow .u8 w A xs → xs.length = n → ByteList xs → (A = none → c = 0) → n ≤ c → c ≤ 9223372036854775807 → n ≤ 1099511627776 → Ld w →
    Calls Tryd.prog 22 #[.slice A n c] w (ToldF (firstP xs) (firstN xs) (firstE xs) w)
  scan : ∀ (A : Option Addr) (n c : Nat) (xs : List Int) (w : World), NRow .u8 w A xs → xs.length = n → ByteList xs → (A = none → c = 0) → n ≤ c → c ≤ 9223372036854775807 → n ≤ 1099511627776 → Ld w →
    Calls Tryd.prog 24 #[.slice A n c] w (ToldS (scanOf xs).1 (scanOf xs).2 w)
theorem sum_nine : sumOf (nats ([[49, 50, 51, 52, 53, 54, 55, 56, 57]] : List (List Int)).flatten) = 3808858755 := by decide +kernel
theorem bites_lit (w : World) (xs : List Int) (cs : Array Value) (e : TypeId) (fr : Nat × Nat) (hcs : cs.toList = xs.map (Value.int .u8)) (hm : xs.length ≤ 9223372036854775807) : Bites (w.alloc (.cells cs e fr)) (.slice (some ⟨w.heap.size, 0, none⟩) xs.length xs.length) xs := by
  refine ⟨_, _, rfl, fun i x hx => ⟨w.heap.size, 0, rfl, ?_⟩, (fun h => by cases h), Nat.le_refl _, hm⟩
  rw [cell_of_row _ _ _ _ _ _ (heap_alloc_new w _), ← Array.getElem?_toList, hcs, List.getElem?_map, Nat.zero_add, hx]
  rfl
theorem bites_alloc {w : World} {v : Value} {p : List Int} (h : Bites w v p) (o : Obj) : Bites (w.alloc o) v p := h.stays (fun b hb => Below.heap_alloc w o b (h.lt b hb))
theorem frame_wakes (F : FLaws) (w : World) (hld : Ld w) : Calls Tryd.prog 16 #[] w fun e w' => e = .returned (.bool true) ∧ Moved w w' [] := by
  have hb := bites_lit w [49, 50, 51, 52, 53, 54, 55, 56, 57] #[.int .u8 49, .int .u8 50, .int .u8 51, .int .u8 52, .int .u8 53, .int .u8 54, .int .u8 55, .int .u8 56, .int .u8 57] 5 (9, 10) rfl (by decide)
  have hr := vrow_lit (w.alloc (.cells #[.int .u8 49, .int .u8 50, .int .u8 51, .int .u8 52, .int .u8 53, .int .u8 54, .int .u8 55, .int .u8 56, .int .u8 57] 5 (9, 10))) (.slice (some ⟨w.heap.size, 0, none⟩) 9 9) 25
  have hsz : ∀ o : Obj, (w.alloc o).heap.size = w.heap.size + 1 := fun o => by simp
  rw [hsz] at hr
  have hB : BRows _ _ [.slice (some ⟨w.heap.size, 0, none⟩) 9 9] [[49, 50, 51, 52, 53, 54, 55, 56, 57]] := ⟨hr, rfl, fun i v p hv hp => by
    rcases i with _ | i
    · simp at hv hp; subst hv hp; exact bites_alloc hb _
    · simp at hv⟩
  have HB := Lib.hid hB
  have HLD := Lib.hid hld
  have hcv := Go.Lib.run_convert_bytes_const (P := Tryd.prog) w 25 5 #[.int .u8 49, .int .u8 50, .int .u8 51, .int .u8 52, .int .u8 53, .int .u8 54, .int .u8 55, .int .u8 56, .int .u8 57] 9 9 Tryd.underlying25 Tryd.underlying5
  clear hb hr hB hsz hld
  go_enter Tryd.func16, Tryd.ntmps16
  go_wp2_with fail
  refine (F.sum _ _ _ _ [[49, 50, 51, 52, 53, 54, 55, 56, 57]] _ (by exact HB.out) rfl (fun p hp => by simp at hp; subst hp; intro x hx; simp at hx; omega) (by simp) (by exact (HLD.out.alloc _).alloc _)).mono ?_
  rintro e w1 ⟨rfl, k, rfl⟩
  rw [sum_nine]
  go_wp2
  go_ret
  exact ⟨rfl, (((Moved.refl w []).alloc _).alloc _).drewN _⟩
end Fr
end Go.Proofs.YtpcmkjmkaggfbaaDoor
