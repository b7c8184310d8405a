/-
  1 texts in one: ReadPown.
-/
import Derived.Test.YtpghaffjfinpeaaGreatKWireOnly07
import Derived.Test.YtpghaffjfinpeaaGreatKWireOnly04
import Derived.Test.YtpghaffjfinpeaaGreatKWireOnly09
import Derived.Test.YtpghaffjfinpeaaGreatKWireOnly08
import Derived.Test.YtpghaffjfinpeaaGreatKWireOnly14
import Derived.Test.YtpghaffjfinpeaaGreatKWireOnly16

/-
  CONTRACT of (*wire.reader).own. (wip/gen_read.py wrote this.)
-/
namespace Go.Proofs.YtpghaffjfinpeaaGreat
namespace Wi
open Go.RowKit Pk Am
set_option maxRecDepth 100000 in
set_option maxHeartbeats 8000000 in
theorem r_own (q p : Nat) (x : Rs) (w : World) (hR : Rd w q p x) :
    Calls Tryz.prog 59 #[.pointer (some ⟨q, 0, none⟩)] w fun r w' => ∃ vs ds y, r = .returned (.agg vs.toArray) ∧ Got q p x w Kown vs ds y w' := by
  obtain ⟨W0, hW0⟩ : ∃ W0, W0 = w.alloc (.cells #[.int .i64 0, .int .i64 0, .int .i64 0, .complex .f64 0 0, .int .i64 0, .int .i64 0, .int .i64 0, .int .i64 0, .slice none 0 0, .bool false, .int .i64 0, .int .i64 0, .int .i64 0, .bool false, .int .i64 0, .int .i64 0, .int .i64 0, .int .i64 0, .slice none 0 0, .slice none 0 0, .slice none 0 0] 126) := ⟨_, rfl⟩
  have hR0 : Rd W0 q p x := by rw [hW0]; exact hR.stays (fun k hk => Below.heap_alloc w _ k hk)
  have hat : At W0 w.heap.size #[.int .i64 0, .int .i64 0, .int .i64 0, .complex .f64 0 0, .int .i64 0, .int .i64 0, .int .i64 0, .int .i64 0, .slice none 0 0, .bool false, .int .i64 0, .int .i64 0, .int .i64 0, .bool false, .int .i64 0, .int .i64 0, .int .i64 0, .int .i64 0, .slice none 0 0, .slice none 0 0, .slice none 0 0] 126 := by rw [hW0]; exact heap_alloc_new w _
  have hsz : W0.heap.size = w.heap.size + 1 := by rw [hW0]; simp
  have hM0 : Moved w W0 [] := by rw [hW0]; exact (Moved.refl w []).alloc _
  have hA := Lib.hid (Got.refl hR0)
  have hc : W0.drew.cell? ⟨q, 0, none⟩ = some (.pointer (some ⟨p, 0, none⟩)) := hR0.cell
  have hwd : Moved W0 W0.drew [] := (Moved.refl W0 []).drew
  have HR := Lib.hid hR
  have HAT := Lib.hid hat
  have HSZ := Lib.hid hsz
  have HM0 := Lib.hid hM0
  have HI := Lib.hid (show (Tryz.prog.info? 126).map (·.size) = some 21 by kernel_rfl)
  have hmf : ∀ (fn : Fn) (first cap : Array Value) (w : World), (Instr.makeFunc fn first cap).run Tryz.prog w = .ok (.func fn first cap) w := fun _ _ _ _ => rfl
  clear hR hR0 hat hsz hM0
  go_enter Tryz.func59, Tryz.ntmps59
  go_wp2_with fail
  rw [← hW0]
  clear hW0
  refine wp_region_held (S := fun w' => w'.cell? ⟨q, 0, none⟩ = some (.pointer (some ⟨p, 0, none⟩))) (by kernel_rfl) ?_
  change wpAnyH _ _ _ _ _ _ _ _ (World.drew _)
  refine wpAnyH_take (i := 0) (v := .pointer (some ⟨q, 0, none⟩)) rfl (by kernel_rfl) (by kernel_rfl) (by kernel_rfl) (fun _ _ _ h => h) (Or.inl ⟨by rfl, fun w' hw => by go_simp⟩) hc ?_
  simp only [Act.put]
  try simp only [List.setIfInBounds_toArray]
  refine wpAnyH_take (i := 2) (v := .pointer (some ⟨q, 0, none⟩)) rfl (by kernel_rfl) (by kernel_rfl) (by kernel_rfl) (fun _ _ _ h => h) (Or.inl ⟨by rfl, fun w' hw => by go_simp⟩) hc ?_
  refine wpAnyH_take (i := 3) (v := .pointer (some ⟨q, 0, none⟩)) rfl (by kernel_rfl) (by kernel_rfl) (by kernel_rfl) (fun _ _ _ h => h) (Or.inl ⟨by rfl, fun w' hw => by go_simp⟩) hc ?_
  refine wpAnyH_take (i := 4) (v := .pointer (some ⟨q, 0, none⟩)) rfl (by kernel_rfl) (by kernel_rfl) (by kernel_rfl) (fun _ _ _ h => h) (Or.inl ⟨by rfl, fun w' hw => by go_simp⟩) hc ?_
  refine wpAnyH_take (i := 5) (v := .pointer (some ⟨p, 0, none⟩)) rfl (by kernel_rfl) (by kernel_rfl) (by kernel_rfl) (fun _ _ _ h => h) (Or.inl ⟨by rfl, fun w' hw => by go_simp⟩) hc ?_
  simp only [Act.put]
  try simp only [List.setIfInBounds_toArray]
  refine wpAnyH_take (i := 7) (v := .pointer (some ⟨q, 0, none⟩)) rfl (by kernel_rfl) (by kernel_rfl) (by kernel_rfl) (fun _ _ _ h => h) (Or.inl ⟨by rfl, fun w' hw => by go_simp⟩) hc ?_
  refine wpAnyH_take (i := 8) (v := .pointer (some ⟨q, 0, none⟩)) rfl (by kernel_rfl) (by kernel_rfl) (by kernel_rfl) (fun _ _ _ h => h) (Or.inl ⟨by rfl, fun w' hw => by go_simp⟩) hc ?_
  refine wpAnyH_take (i := 9) (v := .pointer (some ⟨q, 0, none⟩)) rfl (by kernel_rfl) (by kernel_rfl) (by kernel_rfl) (fun _ _ _ h => h) (Or.inl ⟨by rfl, fun w' hw => by go_simp⟩) hc ?_
  refine wpAnyH_take (i := 10) (v := .pointer (some ⟨p, 0, none⟩)) rfl (by kernel_rfl) (by kernel_rfl) (by kernel_rfl) (fun _ _ _ h => h) (Or.inl ⟨by rfl, fun w' hw => by go_simp⟩) hc ?_
  simp only [Act.put]
  try simp only [List.setIfInBounds_toArray]
  refine wpAnyH_take (i := 12) (v := .pointer (some ⟨q, 0, none⟩)) rfl (by kernel_rfl) (by kernel_rfl) (by kernel_rfl) (fun _ _ _ h => h) (Or.inl ⟨by rfl, fun w' hw => by go_simp⟩) hc ?_
  refine wpAnyH_take (i := 13) (v := .pointer (some ⟨q, 0, none⟩)) rfl (by kernel_rfl) (by kernel_rfl) (by kernel_rfl) (fun _ _ _ h => h) (Or.inl ⟨by rfl, fun w' hw => by go_simp⟩) hc ?_
  refine wpAnyH_take (i := 14) (v := .pointer (some ⟨q, 0, none⟩)) rfl (by kernel_rfl) (by kernel_rfl) (by kernel_rfl) (fun _ _ _ h => h) (Or.inl ⟨by rfl, fun w' hw => by go_simp⟩) hc ?_
  refine wpAnyH_take (i := 15) (v := .pointer (some ⟨p, 0, none⟩)) rfl (by kernel_rfl) (by kernel_rfl) (by kernel_rfl) (fun _ _ _ h => h) (Or.inl ⟨by rfl, fun w' hw => by go_simp⟩) hc ?_
  simp only [Act.put]
  try simp only [List.setIfInBounds_toArray]
  refine wpAnyH_take (i := 17) (v := .pointer (some ⟨q, 0, none⟩)) rfl (by kernel_rfl) (by kernel_rfl) (by kernel_rfl) (fun _ _ _ h => h) (Or.inl ⟨by rfl, fun w' hw => by go_simp⟩) hc ?_
  refine wpAnyH_take (i := 18) (v := .pointer (some ⟨q, 0, none⟩)) rfl (by kernel_rfl) (by kernel_rfl) (by kernel_rfl) (fun _ _ _ h => h) (Or.inl ⟨by rfl, fun w' hw => by go_simp⟩) hc ?_
  refine wpAnyH_take (i := 19) (v := .pointer (some ⟨q, 0, none⟩)) rfl (by kernel_rfl) (by kernel_rfl) (by kernel_rfl) (fun _ _ _ h => h) (Or.inl ⟨by rfl, fun w' hw => by go_simp⟩) hc ?_
  refine wpAnyH_take (i := 20) (v := .pointer (some ⟨p, 0, none⟩)) rfl (by kernel_rfl) (by kernel_rfl) (by kernel_rfl) (fun _ _ _ h => h) (Or.inl ⟨by rfl, fun w' hw => by go_simp⟩) hc ?_
  simp only [Act.put]
  try simp only [List.setIfInBounds_toArray]
  refine wpAnyH_take (i := 22) (v := .pointer (some ⟨q, 0, none⟩)) rfl (by kernel_rfl) (by kernel_rfl) (by kernel_rfl) (fun _ _ _ h => h) (Or.inl ⟨by rfl, fun w' hw => by go_simp⟩) hc ?_
  refine wpAnyH_take (i := 23) (v := .pointer (some ⟨q, 0, none⟩)) rfl (by kernel_rfl) (by kernel_rfl) (by kernel_rfl) (fun _ _ _ h => h) (Or.inl ⟨by rfl, fun w' hw => by go_simp⟩) hc ?_
  refine wpAnyH_take (i := 24) (v := .pointer (some ⟨q, 0, none⟩)) rfl (by kernel_rfl) (by kernel_rfl) (by kernel_rfl) (fun _ _ _ h => h) (Or.inl ⟨by rfl, fun w' hw => by go_simp⟩) hc ?_
  refine wpAnyH_take (i := 25) (v := .pointer (some ⟨p, 0, none⟩)) rfl (by kernel_rfl) (by kernel_rfl) (by kernel_rfl) (fun _ _ _ h => h) (Or.inl ⟨by rfl, fun w' hw => by go_simp⟩) hc ?_
  simp only [Act.put]
  try simp only [List.setIfInBounds_toArray]
  refine wpAnyH_take (i := 27) (v := .pointer (some ⟨q, 0, none⟩)) rfl (by kernel_rfl) (by kernel_rfl) (by kernel_rfl) (fun _ _ _ h => h) (Or.inl ⟨by rfl, fun w' hw => by go_simp⟩) hc ?_
  refine wpAnyH_take (i := 28) (v := .pointer (some ⟨q, 0, none⟩)) rfl (by kernel_rfl) (by kernel_rfl) (by kernel_rfl) (fun _ _ _ h => h) (Or.inl ⟨by rfl, fun w' hw => by go_simp⟩) hc ?_
  refine wpAnyH_take (i := 29) (v := .pointer (some ⟨q, 0, none⟩)) rfl (by kernel_rfl) (by kernel_rfl) (by kernel_rfl) (fun _ _ _ h => h) (Or.inl ⟨by rfl, fun w' hw => by go_simp⟩) hc ?_
  refine wpAnyH_take (i := 30) (v := .pointer (some ⟨p, 0, none⟩)) rfl (by kernel_rfl) (by kernel_rfl) (by kernel_rfl) (fun _ _ _ h => h) (Or.inl ⟨by rfl, fun w' hw => by go_simp⟩) hc ?_
  simp only [Act.put]
  try simp only [List.setIfInBounds_toArray]
  refine wpAnyH_take (i := 32) (v := .pointer (some ⟨q, 0, none⟩)) rfl (by kernel_rfl) (by kernel_rfl) (by kernel_rfl) (fun _ _ _ h => h) (Or.inl ⟨by rfl, fun w' hw => by go_simp⟩) hc ?_
  refine wpAnyH_take (i := 33) (v := .pointer (some ⟨q, 0, none⟩)) rfl (by kernel_rfl) (by kernel_rfl) (by kernel_rfl) (fun _ _ _ h => h) (Or.inl ⟨by rfl, fun w' hw => by go_simp⟩) hc ?_
  refine wpAnyH_take (i := 34) (v := .pointer (some ⟨q, 0, none⟩)) rfl (by kernel_rfl) (by kernel_rfl) (by kernel_rfl) (fun _ _ _ h => h) (Or.inl ⟨by rfl, fun w' hw => by go_simp⟩) hc ?_
  refine wpAnyH_take (i := 35) (v := .pointer (some ⟨p, 0, none⟩)) rfl (by kernel_rfl) (by kernel_rfl) (by kernel_rfl) (fun _ _ _ h => h) (Or.inl ⟨by rfl, fun w' hw => by go_simp⟩) hc ?_
  simp only [Act.put]
  try simp only [List.setIfInBounds_toArray]
  refine wpAnyH_take (i := 37) (v := .pointer (some ⟨q, 0, none⟩)) rfl (by kernel_rfl) (by kernel_rfl) (by kernel_rfl) (fun _ _ _ h => h) (Or.inl ⟨by rfl, fun w' hw => by go_simp⟩) hc ?_
  refine wpAnyH_take (i := 38) (v := .pointer (some ⟨q, 0, none⟩)) rfl (by kernel_rfl) (by kernel_rfl) (by kernel_rfl) (fun _ _ _ h => h) (Or.inl ⟨by rfl, fun w' hw => by go_simp⟩) hc ?_
  refine wpAnyH_take (i := 39) (v := .pointer (some ⟨q, 0, none⟩)) rfl (by kernel_rfl) (by kernel_rfl) (by kernel_rfl) (fun _ _ _ h => h) (Or.inl ⟨by rfl, fun w' hw => by go_simp⟩) hc ?_
  refine wpAnyH_take (i := 40) (v := .pointer (some ⟨p, 0, none⟩)) rfl (by kernel_rfl) (by kernel_rfl) (by kernel_rfl) (fun _ _ _ h => h) (Or.inl ⟨by rfl, fun w' hw => by go_simp⟩) hc ?_
  simp only [Act.put]
  try simp only [List.setIfInBounds_toArray]
  refine wpAnyH_take (i := 42) (v := .pointer (some ⟨q, 0, none⟩)) rfl (by kernel_rfl) (by kernel_rfl) (by kernel_rfl) (fun _ _ _ h => h) (Or.inl ⟨by rfl, fun w' hw => by go_simp⟩) hc ?_
  refine wpAnyH_take (i := 43) (v := .pointer (some ⟨q, 0, none⟩)) rfl (by kernel_rfl) (by kernel_rfl) (by kernel_rfl) (fun _ _ _ h => h) (Or.inl ⟨by rfl, fun w' hw => by go_simp⟩) hc ?_
  refine wpAnyH_take (i := 44) (v := .pointer (some ⟨q, 0, none⟩)) rfl (by kernel_rfl) (by kernel_rfl) (by kernel_rfl) (fun _ _ _ h => h) (Or.inl ⟨by rfl, fun w' hw => by go_simp⟩) hc ?_
  refine wpAnyH_take (i := 45) (v := .pointer (some ⟨q, 0, none⟩)) rfl (by kernel_rfl) (by kernel_rfl) (by kernel_rfl) (fun _ _ _ h => h) (Or.inl ⟨by rfl, fun w' hw => by go_simp⟩) hc ?_
  refine wpAnyH_take (i := 46) (v := .pointer (some ⟨p, 0, none⟩)) rfl (by kernel_rfl) (by kernel_rfl) (by kernel_rfl) (fun _ _ _ h => h) (Or.inl ⟨by rfl, fun w' hw => by go_simp⟩) hc ?_
  refine wpAnyH_take (i := 47) (v := .func (.func 33) #[.pointer (some ⟨p, 0, none⟩)] #[]) rfl (by kernel_rfl) (by kernel_rfl) (by kernel_rfl) (fun _ _ _ h => h) (Or.inl ⟨by rfl, fun w' hw => by go_simp⟩) hc ?_
  simp only [Act.put]
  try simp only [List.setIfInBounds_toArray]
  refine wpAnyH_take (i := 49) (v := .pointer (some ⟨q, 0, none⟩)) rfl (by kernel_rfl) (by kernel_rfl) (by kernel_rfl) (fun _ _ _ h => h) (Or.inl ⟨by rfl, fun w' hw => by go_simp⟩) hc ?_
  refine wpAnyH_take (i := 50) (v := .pointer (some ⟨q, 0, none⟩)) rfl (by kernel_rfl) (by kernel_rfl) (by kernel_rfl) (fun _ _ _ h => h) (Or.inl ⟨by rfl, fun w' hw => by go_simp⟩) hc ?_
  refine wpAnyH_take (i := 51) (v := .func (.func 87) #[.pointer (some ⟨q, 0, none⟩)] #[]) rfl (by kernel_rfl) (by kernel_rfl) (by kernel_rfl) (fun _ _ _ h => h) (Or.inl ⟨by rfl, fun w' hw => by go_simp⟩) hc ?_
  simp only [Act.put]
  try simp only [List.setIfInBounds_toArray]
  refine wpAnyH_take (i := 53) (v := .pointer (some ⟨q, 0, none⟩)) rfl (by kernel_rfl) (by kernel_rfl) (by kernel_rfl) (fun _ _ _ h => h) (Or.inl ⟨by rfl, fun w' hw => by go_simp⟩) hc ?_
  refine wpAnyH_take (i := 54) (v := .pointer (some ⟨q, 0, none⟩)) rfl (by kernel_rfl) (by kernel_rfl) (by kernel_rfl) (fun _ _ _ h => h) (Or.inl ⟨by rfl, fun w' hw => by go_simp⟩) hc ?_
  refine wpAnyH_take (i := 55) (v := .func (.func 89) #[.pointer (some ⟨q, 0, none⟩)] #[]) rfl (by kernel_rfl) (by kernel_rfl) (by kernel_rfl) (fun _ _ _ h => h) (Or.inl ⟨by rfl, fun w' hw => by go_simp⟩) hc ?_
  simp only [Act.put]
  try simp only [List.setIfInBounds_toArray]
  refine wpAnyH_ready (rs := [1]) (by kernel_rfl) (by simp) ?_
  refine AllReadyH.cons rfl (fun K hK => ?_) AllReadyH.nil
  rw [if_pos (by rfl)]
  go_simp
  refine (r_job q p _ _ (by exact (Got.rd hA.out).stays (fun _ _ => rfl))).mono ?_
  rintro e0 w1 ⟨vs0, ds0, y0, rfl, hG⟩
  obtain ⟨v0, v1, v2, v3, v4, v5, v6, v7, v8, v9, rfl⟩ : ∃ v0 v1 v2 v3 v4 v5 v6 v7 v8 v9, vs0 = [v0, v1, v2, v3, v4, v5, v6, v7, v8, v9] := list_10 hG.data.len.1
  have hA := Lib.hid (hA.out.trans hwd hG)
  have hc := hA.out.rd.cell
  clear hG hwd
  refine hK.out _ _ hc (fun _ => ?_)
  clear hK K
  refine wpAnyH_ready (rs := [6]) (by kernel_rfl) (by simp) ?_
  refine AllReadyH.cons rfl (fun K hK => ?_) AllReadyH.nil
  rw [if_pos (by rfl)]
  go_simp
  refine (g_int q p _ _ (by exact hA.out.rd)).mono ?_
  rintro e1 w2 ⟨n10, y1, rfl, hG⟩
  have hA := Lib.hid (hA.out.trans (Moved.refl _ []) hG)
  have hc := hA.out.rd.cell
  clear hG
  refine hK.out _ _ hc (fun _ => ?_)
  clear hK K
  refine wpAnyH_ready (rs := [11]) (by kernel_rfl) (by simp) ?_
  refine AllReadyH.cons rfl (fun K hK => ?_) AllReadyH.nil
  rw [if_pos (by rfl)]
  go_simp
  refine (g_int q p _ _ (by exact hA.out.rd)).mono ?_
  rintro e2 w3 ⟨n11, y2, rfl, hG⟩
  have hA := Lib.hid (hA.out.trans (Moved.refl _ []) hG)
  have hc := hA.out.rd.cell
  clear hG
  refine hK.out _ _ hc (fun _ => ?_)
  clear hK K
  refine wpAnyH_ready (rs := [16]) (by kernel_rfl) (by simp) ?_
  refine AllReadyH.cons rfl (fun K hK => ?_) AllReadyH.nil
  rw [if_pos (by rfl)]
  go_simp
  refine (g_int q p _ _ (by exact hA.out.rd)).mono ?_
  rintro e3 w4 ⟨n12, y3, rfl, hG⟩
  have hA := Lib.hid (hA.out.trans (Moved.refl _ []) hG)
  have hc := hA.out.rd.cell
  clear hG
  refine hK.out _ _ hc (fun _ => ?_)
  clear hK K
  refine wpAnyH_ready (rs := [21]) (by kernel_rfl) (by simp) ?_
  refine AllReadyH.cons rfl (fun K hK => ?_) AllReadyH.nil
  rw [if_pos (by rfl)]
  go_simp
  refine (g_mark q p _ _ (by exact hA.out.rd)).mono ?_
  rintro e4 w5 ⟨q13, y4, rfl, hG⟩
  have hA := Lib.hid (hA.out.trans (Moved.refl _ []) hG)
  have hc := hA.out.rd.cell
  clear hG
  refine hK.out _ _ hc (fun _ => ?_)
  clear hK K
  refine wpAnyH_ready (rs := [26]) (by kernel_rfl) (by simp) ?_
  refine AllReadyH.cons rfl (fun K hK => ?_) AllReadyH.nil
  rw [if_pos (by rfl)]
  go_simp
  refine (g_int q p _ _ (by exact hA.out.rd)).mono ?_
  rintro e5 w6 ⟨n14, y5, rfl, hG⟩
  have hA := Lib.hid (hA.out.trans (Moved.refl _ []) hG)
  have hc := hA.out.rd.cell
  clear hG
  refine hK.out _ _ hc (fun _ => ?_)
  clear hK K
  refine wpAnyH_ready (rs := [31]) (by kernel_rfl) (by simp) ?_
  refine AllReadyH.cons rfl (fun K hK => ?_) AllReadyH.nil
  rw [if_pos (by rfl)]
  go_simp
  refine (g_int q p _ _ (by exact hA.out.rd)).mono ?_
  rintro e6 w7 ⟨n15, y6, rfl, hG⟩
  have hA := Lib.hid (hA.out.trans (Moved.refl _ []) hG)
  have hc := hA.out.rd.cell
  clear hG
  refine hK.out _ _ hc (fun _ => ?_)
  clear hK K
  refine wpAnyH_ready (rs := [36]) (by kernel_rfl) (by simp) ?_
  refine AllReadyH.cons rfl (fun K hK => ?_) AllReadyH.nil
  rw [if_pos (by rfl)]
  go_simp
  refine (g_int q p _ _ (by exact hA.out.rd)).mono ?_
  rintro e7 w8 ⟨n16, y7, rfl, hG⟩
  have hA := Lib.hid (hA.out.trans (Moved.refl _ []) hG)
  have hc := hA.out.rd.cell
  clear hG
  refine hK.out _ _ hc (fun _ => ?_)
  clear hK K
  refine wpAnyH_ready (rs := [41]) (by kernel_rfl) (by simp) ?_
  refine AllReadyH.cons rfl (fun K hK => ?_) AllReadyH.nil
  rw [if_pos (by rfl)]
  go_simp
  refine (g_int q p _ _ (by exact hA.out.rd)).mono ?_
  rintro e8 w9 ⟨n17, y8, rfl, hG⟩
  have hA := Lib.hid (hA.out.trans (Moved.refl _ []) hG)
  have hc := hA.out.rd.cell
  clear hG
  refine hK.out _ _ hc (fun _ => ?_)
  clear hK K
  refine wpAnyH_ready (rs := [48]) (by kernel_rfl) (by simp) ?_
  refine AllReadyH.cons rfl (fun K hK => ?_) AllReadyH.nil
  rw [if_pos (by rfl)]
  go_simp
  refine (r_list_int q p _ 8 _ _ (by exact hA.out.rd) (by rfl) (by omega)).mono ?_
  rintro e9 w10 ⟨A18, z18, k18, r18, y9, rfl, hG⟩
  have hA := Lib.hid (hA.out.trans (Moved.refl _ []) hG)
  have hc := hA.out.rd.cell
  clear hG
  refine hK.out _ _ hc (fun _ => ?_)
  clear hK K
  refine wpAnyH_ready (rs := [52]) (by kernel_rfl) (by simp) ?_
  refine AllReadyH.cons rfl (fun K hK => ?_) AllReadyH.nil
  rw [if_pos (by rfl)]
  go_simp
  refine (r_list_offer q p _ 8 _ _ (by exact hA.out.rd) (by rfl) (by omega)).mono ?_
  rintro e10 w11 ⟨A19, z19, k19, r19, y10, rfl, hG⟩
  have hA := Lib.hid (hA.out.trans (Moved.refl _ []) hG)
  have hc := hA.out.rd.cell
  clear hG
  refine hK.out _ _ hc (fun _ => ?_)
  clear hK K
  refine wpAnyH_ready (rs := [56]) (by kernel_rfl) (by simp) ?_
  refine AllReadyH.cons rfl (fun K hK => ?_) AllReadyH.nil
  rw [if_pos (by rfl)]
  go_simp
  refine (r_list_part q p _ 8 _ _ (by exact hA.out.rd) (by rfl) (by omega)).mono ?_
  rintro e11 w12 ⟨A20, z20, k20, r20, y11, rfl, hG⟩
  have hA := Lib.hid (hA.out.trans (Moved.refl _ []) hG)
  have hc := hA.out.rd.cell
  clear hG
  refine hK.out _ _ hc (fun _ => ?_)
  clear hK K
  refine wpAnyH_take (i := 57) (v := .agg #[v0, v1, v2, v3, v4, v5, v6, v7, v8, v9, .int .i64 n10, .int .i64 n11, .int .i64 n12, .bool q13, .int .i64 n14, .int .i64 n15, .int .i64 n16, .int .i64 n17, .slice A18 z18 k18, .slice A19 z19 k19, .slice A20 z20 k20]) rfl (by kernel_rfl) (by kernel_rfl) (by kernel_rfl) (fun _ _ _ h => h) (Or.inl ⟨by rfl, fun w' hw => by go_simp⟩) hc ?_
  refine wpAnyH_ready (rs := [58]) (by kernel_rfl) (by simp) ?_
  refine AllReadyH.cons rfl (fun K hK => ?_) AllReadyH.nil
  have hng : ∀ k ∈ [p, q], k ≠ w.heap.size := by
    have h1 := HR.out.ltp
    have h2 := HR.out.ltq
    intro k hk
    simp only [List.mem_cons, List.not_mem_nil, or_false] at hk
    omega
  have hat2 : At w12 w.heap.size #[.int .i64 0, .int .i64 0, .int .i64 0, .complex .f64 0 0, .int .i64 0, .int .i64 0, .int .i64 0, .int .i64 0, .slice none 0 0, .bool false, .int .i64 0, .int .i64 0, .int .i64 0, .bool false, .int .i64 0, .int .i64 0, .int .i64 0, .int .i64 0, .slice none 0 0, .slice none 0 0, .slice none 0 0] 126 := (hA.out.moved.block _ (by have := HSZ.out; omega) (fun hm => hng _ hm rfl)).trans HAT.out
  refine step_store_row rfl 126 _ _ rfl w.heap.size #[v0, v1, v2, v3, v4, v5, v6, v7, v8, v9, .int .i64 n10, .int .i64 n11, .int .i64 n12, .bool q13, .int .i64 n14, .int .i64 n15, .int .i64 n16, .int .i64 n17, .slice A18 z18 k18, .slice A19 z19 k19, .slice A20 z20 k20] rfl rfl _ hat2 (by exact HI.out) rfl (by rw [List.all_toArray]; exact data_one hA.out.data) ?_
  obtain ⟨wZ, hw9⟩ : ∃ wZ, wZ = w12.setRow w.heap.size #[v0, v1, v2, v3, v4, v5, v6, v7, v8, v9, .int .i64 n10, .int .i64 n11, .int .i64 n12, .bool q13, .int .i64 n14, .int .i64 n15, .int .i64 n16, .int .i64 n17, .slice A18 z18 k18, .slice A19 z19 k19, .slice A20 z20 k20] := ⟨_, rfl⟩
  have hm9 : Moved w12 wZ [w.heap.size] := by rw [hw9]; exact moved_setRow (Moved.refl _ _) (.inl (by simp)) _
  have hat9 : At wZ w.heap.size #[v0, v1, v2, v3, v4, v5, v6, v7, v8, v9, .int .i64 n10, .int .i64 n11, .int .i64 n12, .bool q13, .int .i64 n14, .int .i64 n15, .int .i64 n16, .int .i64 n17, .slice A18 z18 k18, .slice A19 z19 k19, .slice A20 z20 k20] 126 := by rw [hw9]; exact setRow_heap _ _ _ _ _ _ hat2
  rw [← hw9]
  have hc9 : wZ.cell? ⟨q, 0, none⟩ = some (.pointer (some ⟨p, 0, none⟩)) := by
    rw [World.cell?_of_block (w := w12) (hm9.block q hA.out.rd.ltq (by simpa using hng q (by simp)))]; exact hc
  refine hK.out _ _ hc9 (fun _ => ?_)
  clear hK K hat2 hw9
  refine wpAnyH_done (by kernel_rfl) ?_ _
  have hrl : (loadVar 126 ⟨w.heap.size, 0, none⟩).run Tryz.prog wZ = .ok (.agg #[v0, v1, v2, v3, v4, v5, v6, v7, v8, v9, .int .i64 n10, .int .i64 n11, .int .i64 n12, .bool q13, .int .i64 n14, .int .i64 n15, .int .i64 n16, .int .i64 n17, .slice A18 z18 k18, .slice A19 z19 k19, .slice A20 z20 k20]) wZ := run_loadVar_mid wZ w.heap.size 0 126 [v0, v1, v2, v3, v4, v5, v6, v7, v8, v9, .int .i64 n10, .int .i64 n11, .int .i64 n12, .bool q13, .int .i64 n14, .int .i64 n15, .int .i64 n16, .int .i64 n17, .slice A18 z18 k18, .slice A19 z19 k19, .slice A20 z20 k20] _ hat9.range Tryz.underlying126 rfl (by exact HI.out)
  have HG := Lib.hid (got_done HR.out HM0.out HSZ.out hA.out hm9)
  clear hA hc hc9 hm9 hat9 hng
  go_wp2_with fail
  exact bodyPost_ret (results_cell rfl rfl hrl) rfl ⟨_, _, _, rfl, HG.out⟩
end Wi
end Go.Proofs.YtpghaffjfinpeaaGreat
