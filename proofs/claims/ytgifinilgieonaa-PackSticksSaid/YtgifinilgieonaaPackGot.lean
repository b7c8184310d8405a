/-
  CONTRACT of the statements' helper got, at an item without content.
-/
import Derived.Test.YtgifinilgieonaaPackWLaws
import Derived.Deep.RegionHeld3
namespace Go.Proofs.Ytgifinilgieonaa
namespace Pk
open Go.RowKit Am

def GotEnd (R : World → Nat → List Nat → St → Prop) (p : Nat) (fp : List Nat) (st st' : St) (w : World) (r : Ending) (w' : World) : Prop :=
  ∃ b, r = .returned (.bool b) ∧ (∀ e, st = .bad e → b = true) ∧ ∃ fp', R w' p fp' st' ∧ Step w w' fp fp'
theorem step_pre {w W0 w1 : World} {S T : List Nat} (h0 : Moved w W0 []) (h : Step W0 w1 S T) : Step w w1 S T :=
  ⟨(h0.mono (fun _ hk => by cases hk)).trans h.1 (fun _ hk => .inl hk), fun k hk => (h.2 k hk).imp id (fun hk => Nat.le_trans h0.size hk)⟩
theorem step_cell {w w1 : World} {S T : List Nat} (h : Step w w1 S T) {b o : Nat} {v : Value} (hb : b ∉ S) (hc : w.cell? ⟨b, o, none⟩ = some v) : w1.cell? ⟨b, o, none⟩ = some v := by
  rw [World.cell?_of_block (w := w) (h.1.block b (World.block_lt_of_cell? w _ hc) hb)]; exact hc
set_option maxRecDepth 100000 in
set_option maxHeartbeats 2000000 in
theorem got_any {R : World → Nat → List Nat → St → Prop} (L : RLaws R) (p : Nat) (fp : List Nat) (st : St) (j : Int) (w : World) (hR : R w p fp st) :
    Calls Try.prog 28 #[.pointer (some ⟨p, 0, none⟩), .agg #[.int .i64 j, .int .u64 0, .int .i64 0, .bool false, .slice none 0 0, .complex .f64 0 0]] w (GotEnd R p fp st (stepK (kindOf j) st) w) := by
  have hlt := L.lt hR
  have hn : w.heap.size ∉ fp := fun h => by have := hlt _ h; omega
  have hR0 : R (w.alloc (.cells #[.int .i64 j, .int .u64 0, .int .i64 0, .bool false, .slice none 0 0, .complex .f64 0 0] 56)) p fp st := L.stays hR (fun k hk => Below.heap_alloc w _ k (hlt k hk))
  have hb0 := heap_alloc_new w (.cells #[.int .i64 j, .int .u64 0, .int .i64 0, .bool false, .slice none 0 0, .complex .f64 0 0] 56)
  have HR0 := Lib.hid hR0
  have HN := Lib.hid hn
  have HB0 := Lib.hid hb0
  obtain ⟨k, hk⟩ : ∃ k, k = kindOf j := ⟨_, rfl⟩
  have hr := kindOf_range j
  rw [← hk] at hr ⊢
  obtain ⟨hr0, hr4⟩ := hr
  have HK := Lib.hid hk
  clear hk hR hlt hn hR0 hb0
  by_cases h0 : k = 0
  · have HT : Hid (stepK k st = st.uint.2) := by show _ = _; rw [stepK, if_pos h0]
    obtain rfl := h0
    have c1 := cell_at HB0.out 1 (v := .int .u64 0) rfl
    go_enter Try.func28, Try.ntmps28
    go_wp2_with (first
      | (go_at_call 15; refine (kind_any _ _).mono ?_; rintro e w1 ⟨rfl, rfl⟩; rw [← HK.out]))
    go_region_held3 (fun w' => w'.cell? ⟨w.heap.size, 1, none⟩ = some (.int .u64 0)) (go_keep) ((go_at_call 17; refine (L.uint p fp st _ (by exact L.stays HR0.out (fun _ _ => rfl))).mono ?_; rintro e w1 ⟨rfl, fp1, hR1, hS1⟩; have hc1 := step_cell hS1 HN.out c1; have HR1 := Lib.hid hR1; have HS1 := Lib.hid hS1; clear hR1 hS1))
    go_wp2
    go_ret
    exact ⟨_, rfl, fun e h => by subst h; rfl, fp1, by rw [HT.out]; exact HR1.out, step_pre (by first | exact ((Moved.refl w []).alloc _).drew | exact ((Moved.refl w []).alloc _).drewN _ | exact (Moved.refl w []).alloc _) HS1.out⟩
  by_cases h1 : k = 1
  · have HT : Hid (stepK k st = st.int.2) := by show _ = _; rw [stepK, if_neg h0, if_pos h1]
    obtain rfl := h1
    have c1 := cell_at HB0.out 2 (v := .int .i64 0) rfl
    go_enter Try.func28, Try.ntmps28
    go_wp2_with (first
      | (go_at_call 15; refine (kind_any _ _).mono ?_; rintro e w1 ⟨rfl, rfl⟩; rw [← HK.out]))
    go_region_held3 (fun w' => w'.cell? ⟨w.heap.size, 2, none⟩ = some (.int .i64 0)) (go_keep) ((go_at_call 19; refine (L.int p fp st _ (by exact L.stays HR0.out (fun _ _ => rfl))).mono ?_; rintro e w1 ⟨rfl, fp1, hR1, hS1⟩; have hc1 := step_cell hS1 HN.out c1; have HR1 := Lib.hid hR1; have HS1 := Lib.hid hS1; clear hR1 hS1))
    go_wp2
    go_ret
    exact ⟨_, rfl, fun e h => by subst h; show (unzig 0 == 0) = true; decide, fp1, by rw [HT.out]; exact HR1.out, step_pre (by first | exact ((Moved.refl w []).alloc _).drew | exact ((Moved.refl w []).alloc _).drewN _ | exact (Moved.refl w []).alloc _) HS1.out⟩
  by_cases h2 : k = 2
  · have HT : Hid (stepK k st = st.mark.2) := by show _ = _; rw [stepK, if_neg h0, if_neg h1, if_pos h2]
    obtain rfl := h2
    have c1 := cell_at HB0.out 3 (v := .bool false) rfl
    go_enter Try.func28, Try.ntmps28
    go_wp2_with (first
      | (go_at_call 15; refine (kind_any _ _).mono ?_; rintro e w1 ⟨rfl, rfl⟩; rw [← HK.out]))
    go_region_held3 (fun w' => w'.cell? ⟨w.heap.size, 3, none⟩ = some (.bool false)) (go_keep) ((go_at_call 21; refine (L.mark p fp st _ (by exact L.stays HR0.out (fun _ _ => rfl))).mono ?_; rintro e w1 ⟨rfl, fp1, hR1, hS1⟩; have hc1 := step_cell hS1 HN.out c1; have HR1 := Lib.hid hR1; have HS1 := Lib.hid hS1; clear hR1 hS1))
    go_wp2
    go_ret
    exact ⟨_, rfl, fun e h => by subst h; rfl, fp1, by rw [HT.out]; exact HR1.out, step_pre (by first | exact ((Moved.refl w []).alloc _).drew | exact ((Moved.refl w []).alloc _).drewN _ | exact (Moved.refl w []).alloc _) HS1.out⟩
  by_cases h3 : k = 3
  · have HT : Hid (stepK k st = st.text.2) := by show _ = _; rw [stepK, if_neg h0, if_neg h1, if_neg h2, if_pos h3]
    obtain rfl := h3
    have c1 := cell_at HB0.out 4 (v := .slice none 0 0) rfl
    have HTB := Lib.hid (text_bytes (st := st) (fun bs e => L.bytes (e ▸ HR0.out)))
    go_enter Try.func28, Try.ntmps28
    go_wp2_with (first
      | (go_at_call 15; refine (kind_any _ _).mono ?_; rintro e w1 ⟨rfl, rfl⟩; rw [← HK.out]))
    go_region_held3 (fun w' => w'.cell? ⟨w.heap.size, 4, none⟩ = some (.slice none 0 0)) (go_keep) (first
      | (go_at_call 23; refine (L.text p fp st _ (by exact L.stays HR0.out (fun _ _ => rfl))).mono ?_; rintro e w1 ⟨v, fp1, rfl, hO1, hF1, hR1, hS1⟩; obtain ⟨Av, cv, rfl, -⟩ := t_shape hO1; have hc1 := step_cell hS1 HN.out c1; have HO1 := Lib.hid hO1; have HR1 := Lib.hid hR1; have HS1 := Lib.hid hS1; clear hO1 hF1 hR1 hS1)
      | (go_at_call 27; refine (bytes_is _ _ _ _ _ _ _ [] _ (by exact HO1.out.nrow) (NRow.none_ _ _ _) rfl rfl HTB.out ByteList.nil _ rfl).mono ?_; rintro e w2 ⟨rfl, rfl⟩))
    go_wp2
    go_ret
    exact ⟨_, rfl, fun e h => by subst h; rfl, fp1, by rw [HT.out]; exact HR1.out, step_pre (by first | exact ((Moved.refl w []).alloc _).drew | exact ((Moved.refl w []).alloc _).drewN _ | exact (Moved.refl w []).alloc _) HS1.out⟩
  · have HT : Hid (stepK k st = st.amount.2) := by show _ = _; rw [stepK, if_neg h0, if_neg h1, if_neg h2, if_neg h3]
    obtain rfl : k = 4 := by omega
    have c1 := cell_at HB0.out 5 (v := .complex .f64 0 0) rfl
    go_enter Try.func28, Try.ntmps28
    go_wp2_with (first
      | (go_at_call 15; refine (kind_any _ _).mono ?_; rintro e w1 ⟨rfl, rfl⟩; rw [← HK.out]))
    go_region_held3 (fun w' => w'.cell? ⟨w.heap.size, 5, none⟩ = some (.complex .f64 0 0)) (go_keep) ((go_at_call 25; refine (L.amount p fp st _ (by exact L.stays HR0.out (fun _ _ => rfl))).mono ?_; rintro e w1 ⟨rfl, fp1, hR1, hS1⟩; have hc1 := step_cell hS1 HN.out c1; have HR1 := Lib.hid hR1; have HS1 := Lib.hid hS1; clear hR1 hS1; rw [amt]))
    go_wp2
    go_ret
    exact ⟨_, rfl, fun e h => by subst h; show (FloatKind.f64.format.order (floatOfInt FloatKind.f64 ((0 : Nat) : Int)) 0 == some Ordering.eq && FloatKind.f64.format.order (floatOfInt FloatKind.f64 ((0 : Nat) : Int)) 0 == some Ordering.eq) = true; decide +kernel, fp1, by rw [HT.out]; exact HR1.out, step_pre (by first | exact ((Moved.refl w []).alloc _).drew | exact ((Moved.refl w []).alloc _).drewN _ | exact (Moved.refl w []).alloc _) HS1.out⟩
end Pk
end Go.Proofs.Ytgifinilgieonaa
