/-
  THE WALK of the statement PackOnly.
-/
import Derived.Test.YtgifinilgieonaaPackOnly
namespace Go.Proofs.Ytgifinilgieonaa
namespace Pk
open Go.RowKit Am
theorem rowX_rowOf {A : Option Addr} {n c : Nat} {xs : List Int} {k : Nat} (h : k ∈ rowX A xs) : k ∈ rowOf (.slice A n c) := by
  obtain ⟨a, rfl, _, rfl⟩ := mem_rowX.1 h
  simp [mem_rowOf, Value.ownBlock]
theorem unzig_range {v : Nat} (h : v < 18446744073709551616) : -9223372036854775808 ≤ unzig v ∧ unzig v ≤ 9223372036854775807 := by
  unfold unzig; split <;> omega
theorem uint_b {st : St} (h : BytesOf st) : st.uint.1 < 18446744073709551616 := uint_bound h
/-- What stands when all was read without an error. -/
theorem only_end {xs : List Int} {st : St} {s : WSt} (h : Inv xs st s) (hd : st.done = 0) (hf : ∀ e, st = .bad e → e ≠ 0) : s = .ok xs := by
  cases st with
  | bad e => exact absurd hd (hf e rfl)
  | ok bs =>
    cases bs with
    | nil =>
      obtain ⟨ys, rfl, hx⟩ := h [] rfl
      rw [hx]; simp
    | cons x r => simp [St.done] at hd
set_option maxRecDepth 100000 in
set_option maxHeartbeats 2000000 in
theorem only_any {R : World → Nat → List Nat → St → Prop} (L : RLaws R) {Wr : World → Nat → List Nat → WSt → Nat → Prop} (V : WLaws Wr) (W : ∀ w, Calls Try.prog 14 #[] w fun e w' => e = .returned (.bool true) ∧ Moved w w' [])
    (A : Option Addr) (c : Nat) (xs : List Int) (A1 : Option Addr) (c1 : Nat) (js : List Int) (w : World) (hA : NRow .u8 w A xs) (hA1 : NRow .i64 w A1 js) (hb : ByteList xs) (hnil : A = none → c = 0) (hl1 : js.length ≤ 9223372036854775807) (hl0 : xs.length ≤ 9223372036854775807) :
    Calls Try.prog 4 #[.slice A xs.length c, .slice A1 js.length c1] w fun e w' => e = .returned (.bool true) ∧ Below w.heap.size w w' := by
  by_cases hbig : 65536 < xs.length
  · go_enter Try.func4, Try.ntmps4
    go_wp2
    go_ret
    exact ⟨rfl, Below.refl _ _⟩
  by_cases hbig1 : 256 < js.length
  · go_enter Try.func4, Try.ntmps4
    go_wp2
    go_ret
    exact ⟨rfl, Below.refl _ _⟩
  have HA := Lib.hid hA
  have HA1 := Lib.hid hA1
  have HB := Lib.hid hb
  have HNIL := Lib.hid hnil
  clear hA hA1 hb hnil
  go_enter Try.func4, Try.ntmps4
  go_wp2_with fail
  refine (L.new A xs.length c xs w HA.out rfl HB.out HNIL.out (by omega)).mono ?_
  rintro e w1 ⟨p, fp, rfl, hR1, hS1⟩
  have hfp : ∀ k ∈ fp, w.heap.size ≤ k := fun k hk => (hS1.2 k hk).elim (fun h => by cases h) id
  have hb1 : Below w.heap.size w w1 := hS1.1.below (Nat.le_refl _) (fun k hk => by cases hk)
  have hr2 : R (w1.alloc (.cells #[.slice none 0 0, .int .i64 0, .pointer none] 39)) p fp (.ok xs) := L.stays hR1 (fun k hk => Below.heap_alloc w1 _ k (L.lt hR1 k hk))
  have hrel : OnlyRel R Wr w (w1.alloc (.cells #[.slice none 0 0, .int .i64 0, .pointer none] 39)) p fp (.ok xs) w1.heap.size [w1.heap.size] (.ok []) 0 xs 0 :=
    ⟨⟨hr2, V.new w1, fun k hk h2 => by have := L.lt hR1 k hk; simp at h2; omega⟩, fun bs e => by cases e; exact ⟨[], rfl, rfl⟩, by omega, hb1.alloc hb1.size _, fun k hk => by
      rcases List.mem_append.1 hk with hk | hk
      · exact hfp k hk
      · have := hb1.size; simp at hk; omega⟩
  have HREL := Lib.hid hrel
  clear hfp hb1 hr2 hrel hR1 hS1 hbig hbig1
  go_wp2
  obtain ⟨q, hq⟩ : ∃ q, q = w1.heap.size := ⟨_, rfl⟩
  rw [← hq] at HREL ⊢
  clear hq
  go_loopw [7] (fun i wr => ∃ (k : Nat) (fp : List Nat) (st : St) (f2 : List Nat) (s : WSt) (m : Nat), i = .int .i64 k ∧ k ≤ js.length ∧ OnlyRel R Wr w wr p fp st q f2 s m xs k) (fun i _ => js.length - (intOf i).toNat)
  case atStart => exact ⟨0, fp, .ok xs, [q], .ok [], 0, rfl, by omega, HREL.out⟩
  case round =>
    obtain ⟨k, fp, st, fp2, s, m, rfl, hk, hrel⟩ := hrel
    have hroom := hrel.room
    have HR := Lib.hid hrel
    clear hrel
    by_cases hlt : k < js.length
    · obtain ⟨j, hj⟩ : ∃ j, js[k]? = some j := ⟨js[k], List.getElem?_eq_getElem hlt⟩
      obtain ⟨b, off, rfl, hcell⟩ := (HA1.out.below HR.out.below (Nat.le_refl _)) k j hj
      clear hj
      obtain ⟨kk, hkk⟩ : ∃ kk, kk = kindOf j := ⟨_, rfl⟩
      have hr := kindOf_range j
      rw [← hkk] at hr
      obtain ⟨hr0, hr4⟩ := hr
      have HK := Lib.hid hkk
      clear hkk
      have HBY := Lib.hid (HR.out.bytes L)
      have HUB := Lib.hid (uint_b HBY.out)
      by_cases h0 : kk = 0
      · obtain rfl := h0
        go_wp2_with (first
          | (go_at_call 15; refine (kind_any _ _).mono ?_; rintro e w1 ⟨rfl, rfl⟩; rw [← HK.out])
          | (go_at_call 17; refine (L.uint p fp st _ HR.out.duo.rd).mono ?_; rintro e w1 ⟨rfl, f1, hR1, hS1⟩; have HR1 := Lib.hid hR1; have HS1 := Lib.hid hS1; have HD := Lib.hid (HR.out.duo.read V hR1 hS1); clear hR1 hS1)
          | (go_at_call 16; refine (V.uint q fp2 s m _ _ HD.out.1.wt HUB.out (by omega)).mono ?_; rintro e w2 ⟨rfl, f2, hW2, hS2⟩; have HW2 := Lib.hid hW2; have HS2 := Lib.hid hS2; clear hW2 hS2))
        go_roundw
        case rel => exact ⟨k + 1, f1, _, f2, _, _, by go_num, by omega, HR.out.go L V HR1.out HS1.out HW2.out HS2.out (inv_kind0 HR.out.inv HBY.out) (by omega)⟩
        case measure => simp [intOf]; omega
      by_cases h1 : kk = 1
      · obtain rfl := h1
        have HIR := Lib.hid (unzig_range HUB.out)
        go_wp2_with (first
          | (go_at_call 15; refine (kind_any _ _).mono ?_; rintro e w1 ⟨rfl, rfl⟩; rw [← HK.out])
          | (go_at_call 19; refine (L.int p fp st _ HR.out.duo.rd).mono ?_; rintro e w1 ⟨rfl, f1, hR1, hS1⟩; have HR1 := Lib.hid hR1; have HS1 := Lib.hid hS1; have HD := Lib.hid (HR.out.duo.read V hR1 hS1); clear hR1 hS1)
          | (go_at_call 18; refine (V.int q fp2 s m _ _ HD.out.1.wt HIR.out.1 HIR.out.2 (by omega)).mono ?_; rintro e w2 ⟨rfl, f2, hW2, hS2⟩; have HW2 := Lib.hid hW2; have HS2 := Lib.hid hS2; clear hW2 hS2))
        go_roundw
        case rel => exact ⟨k + 1, f1, _, f2, _, _, by go_num, by omega, HR.out.go L V HR1.out HS1.out HW2.out HS2.out (inv_kind1 HR.out.inv HBY.out) (by omega)⟩
        case measure => simp [intOf]; omega
      by_cases h2 : kk = 2
      · obtain rfl := h2
        go_wp2_with (first
          | (go_at_call 15; refine (kind_any _ _).mono ?_; rintro e w1 ⟨rfl, rfl⟩; rw [← HK.out])
          | (go_at_call 21; refine (L.mark p fp st _ HR.out.duo.rd).mono ?_; rintro e w1 ⟨rfl, f1, hR1, hS1⟩; have HR1 := Lib.hid hR1; have HS1 := Lib.hid hS1; have HD := Lib.hid (HR.out.duo.read V hR1 hS1); clear hR1 hS1)
          | (go_at_call 20; refine (V.mark q fp2 s m _ _ HD.out.1.wt (by omega)).mono ?_; rintro e w2 ⟨rfl, f2, hW2, hS2⟩; have HW2 := Lib.hid hW2; have HS2 := Lib.hid hS2; clear hW2 hS2))
        go_roundw
        case rel => exact ⟨k + 1, f1, _, f2, _, _, by go_num, by omega, HR.out.go L V HR1.out HS1.out HW2.out HS2.out (inv_kind2 HR.out.inv HBY.out) (by omega)⟩
        case measure => simp [intOf]; omega
      by_cases h3 : kk = 3
      · obtain rfl := h3
        have htl := text_len st
        go_wp2_with (first
          | (go_at_call 15; refine (kind_any _ _).mono ?_; rintro e w1 ⟨rfl, rfl⟩; rw [← HK.out]))
        refine (L.text p fp st _ HR.out.duo.rd).mono ?_
        rintro e w1 ⟨v, f1, rfl, hO1, hF1, hR1, hS1⟩
        obtain ⟨Av, cv, rfl, hvn, -⟩ := t_shape hO1
        have HO1 := Lib.hid hO1
        have HF1 := Lib.hid hF1
        have HR1 := Lib.hid hR1
        have HS1 := Lib.hid hS1
        have HVN := Lib.hid hvn
        have HD := Lib.hid (HR.out.duo.read V hR1 hS1)
        clear hO1 hF1 hR1 hS1 hvn
        go_wp2_with (go_at_call 22; refine (V.text q fp2 s m _ _ _ _ _ HD.out.1.wt HO1.out.nrow rfl HVN.out (fun b hb h => by have h1 := (HF1.out b (rowX_rowOf hb)).1; have h2 := V.lt HR.out.duo.wt b h; omega) (by omega) (by omega)).mono ?_; rintro e w2 ⟨rfl, f2, hW2, hS2⟩; have HW2 := Lib.hid hW2; have HS2 := Lib.hid hS2; clear hW2 hS2)
        go_roundw
        case rel => exact ⟨k + 1, f1, _, f2, _, _, by go_num, by omega, HR.out.go L V HR1.out HS1.out HW2.out HS2.out (inv_kind3 HR.out.inv HBY.out) (by omega)⟩
        case measure => simp [intOf]; omega
      · obtain rfl : kk = 4 := by omega
        have HSM := Lib.hid (amount_small (s := st))
        go_wp2_with (first
          | (go_at_call 15; refine (kind_any _ _).mono ?_; rintro e w1 ⟨rfl, rfl⟩; rw [← HK.out])
          | (go_at_call 25; refine (L.amount p fp st _ HR.out.duo.rd).mono ?_; rintro e w1 ⟨rfl, f1, hR1, hS1⟩; have HR1 := Lib.hid hR1; have HS1 := Lib.hid hS1; have HD := Lib.hid (HR.out.duo.read V hR1 hS1); clear hR1 hS1)
          | (go_at_call 24; refine (V.amount q fp2 s m _ _ _ HD.out.1.wt HSM.out.1 HSM.out.2 (by omega)).mono ?_; rintro e w2 ⟨rfl, f2, hW2, hS2⟩; have HW2 := Lib.hid hW2; have HS2 := Lib.hid hS2; clear hW2 hS2))
        go_roundw
        case rel => exact ⟨k + 1, f1, _, f2, _, _, by go_num, by omega, HR.out.go L V HR1.out HS1.out HW2.out HS2.out (inv_kind4 HR.out.inv HBY.out (uint_bytes HBY.out)) (by omega)⟩
        case measure => simp [intOf]; omega
    · by_cases hd : st.done = 0
      · have hs := only_end HR.out.inv hd (fun e h => L.fine (h ▸ HR.out.duo.rd))
        subst hs
        have HD0 := Lib.hid hd
        clear hd
        go_wp2_with (go_at_call 12; refine (L.done p fp _ _ HR.out.duo.rd).mono ?_; rintro e w6 ⟨rfl, f6, hR6, hS6⟩; rw [HD0.out]; have HD6 := Lib.hid (HR.out.duo.read V hR6 hS6); clear hR6 hS6)
        have HB6 := Lib.hid (Below_step HR.out.below HD6.out.2 HR.out.below.size HR.out.mine)
        refine (V.bytes q fp2 _ m _ HD6.out.1.wt (by omega)).mono ?_
        rintro e w7 ⟨v, rfl, hO7, hS7⟩
        have hO7 : w7.ownsRow 0 5 1 v xs.length (xs.map (Value.int .u8)) := hO7
        obtain ⟨Av, cv, rfl, -⟩ := own_shape hO7
        have HO7 := Lib.hid hO7
        have HB7 := Lib.hid (HB6.out.1.trans (hS7.1.below HB6.out.1.size (fun k hk => by cases hk)))
        clear hO7 hS7
        simp only [WSt.err]
        go_wp2_with (first
          | (go_at_call 27; refine (bytes_is _ _ _ _ _ _ _ _ _ (NRow.of_own HO7.out) (HA.out.below HB7.out (Nat.le_refl _)) rfl rfl HB.out HB.out true (by simp)).mono ?_; rintro e w3 ⟨rfl, rfl⟩)
          | (go_at_call 14; refine (W _).mono ?_; rintro e w8 ⟨rfl, hM8⟩; have HM8 := Lib.hid hM8; clear hM8))
        go_ret
        exact ⟨rfl, HB7.out.trans (HM8.out.below HB7.out.size (fun k hk => by cases hk))⟩
      · have hd2 : (st.done != 0) = true := by simpa using hd
        go_wp2_with (first
          | (go_at_call 12; refine (L.done p fp _ _ HR.out.duo.rd).mono ?_; rintro e w6 ⟨rfl, f6, hR6, hS6⟩; have HD6 := Lib.hid (HR.out.duo.read V hR6 hS6); clear hR6 hS6)
          | (go_at_call 14; refine (W _).mono ?_; rintro e w8 ⟨rfl, hM8⟩; have HM8 := Lib.hid hM8; clear hM8))
        have HB6 := Below_step HR.out.below HD6.out.2 HR.out.below.size HR.out.mine
        go_ret
        exact ⟨rfl, HB6.1.trans (HM8.out.below HB6.1.size (fun k hk => by cases hk))⟩
end Pk
end Go.Proofs.Ytgifinilgieonaa
