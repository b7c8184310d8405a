/-
  THE WALK of the statement FrameSums, from what it asks of package frame.
-/
import Derived.Test.YtpcmkjmkaggfbaaDoorKeepTwins
namespace Go.Proofs.YtpcmkjmkaggfbaaDoor
namespace Fr
open Go.RowKit
theorem part_le_flat {ps : List (List Int)} {p : List Int} (h : p ∈ ps) : p.length ≤ ps.flatten.length := by
  induction ps with
  | nil => cases h
  | cons q r ih =>
    rw [List.flatten_cons, List.length_append]
    rcases List.mem_cons.1 h with rfl | h
    · omega
    · have := ih h; omega
theorem flat_bytes {ps : List (List Int)} (h : ∀ p ∈ ps, ByteList p) : ByteList ps.flatten := by
  intro x hx
  obtain ⟨p, hp, hx⟩ := List.mem_flatten.1 hx
  exact h p hp x hx
theorem flat_take_le {ps : List (List Int)} (k : Nat) : (ps.take k).flatten.length ≤ ps.flatten.length := by
  conv => rhs; rw [← List.take_append_drop k ps, List.flatten_append, List.length_append]
  omega
/-- A row of one, made of bytes of the call's own. -/
theorem brows_one {w : World} {u : Value} {p : List Int} (e : TypeId) (hu : w.ownsRow 0 5 1 u p.length (p.map (Value.int .u8))) : BRows (w.alloc (.cells #[u] e)) (some ⟨w.heap.size, 0, none⟩) [u] [p] :=
  ⟨vrow_lit w u e, rfl, fun i v q hv hq => by
    rcases i with _ | i
    · simp at hv hq; subst hv hq; exact bites_alloc (Bites.of_own hu) _
    · simp at hv⟩
set_option maxRecDepth 100000 in
set_option maxHeartbeats 3000000 in
theorem sums_any (F : FLaws) (A : Option Addr) (c : Nat) (vs : List Value) (ps : List (List Int)) (w : World) (hA : BRows w A vs ps) (hb : ∀ p ∈ ps, ByteList p) (hl : ps.length ≤ 9223372036854775807) (hld : Ld w) :
    Calls Tryd.prog 3 #[.slice A ps.length c] w fun e w' => e = .returned (.bool true) ∧ Below w.heap.size w w' := by
  obtain ⟨i0, hi, hz0, hz1, hz2⟩ := info_parts info_u8
  have HLD := Lib.hid hld
  have HA := Lib.hid hA
  have HB := Lib.hid hb
  clear hld hA hb
  go_enter Tryd.func3, Tryd.ntmps3
  go_wp2_with fail
  refine (heavy_any A _ c vs ps w HA.out rfl hl).mono ?_
  rintro e w1 ⟨b, rfl, hheavy, kd, rfl⟩
  cases b
  case true =>
    go_wp2
    all_goals
      go_ret
      exact ⟨rfl, ((Moved.refl w []).drewN _).below (Nat.le_refl _) (fun _ h => by cases h)⟩
  obtain ⟨hl64, hfl⟩ := hheavy rfl
  have HPL := Lib.hid (show ∀ p ∈ ps, p.length ≤ 70368744177664 from fun p hp => by have := part_le_flat hp; omega)
  clear hheavy
  go_wp2_with fail
  refine (twins_any A _ c vs ps (w.drewN kd) (HA.out.drewN kd) rfl (by omega) HPL.out).mono ?_
  rintro e w2 ⟨vi, fi, rfl, hO2, hS2⟩
  obtain ⟨Ai, ci, ui, rfl, hBi, hni, hci, hci2, hRi⟩ := hO2.reads
  have HBI := Lib.hid hBi
  have HO2 := Lib.hid hO2
  have HS2 := Lib.hid hS2
  have HRI := Lib.hid hRi
  have HM2 := Lib.hid (((Moved.refl w []).drewN kd).trans hS2.1 (fun _ h => by cases h))
  have HA2 := Lib.hid (HA.out.moved HM2.out (fun _ _ h => by cases h))
  clear hO2 hS2 hBi hni hRi
  go_wp2
  go_loopw [4, 5] (fun v i wr => ∃ (k : Nat) (al : List Int), i = .int .i64 k ∧ k ≤ ps.length ∧ al.length ≤ 262144 ∧ Hid (al = (ps.take k).flatten) ∧ wr.ownsRow 0 5 1 v al.length (al.map (Value.int .u8)) ∧ Step w2 wr [] (rowOf v)) (fun _ i _ => ps.length - (intOf i).toNat)
  case atStart => exact ⟨0, [], rfl, by omega, by simp, by simp [Hid], World.ownsRow_nil _ _ _ _, Step.refl _ _⟩
  case round =>
    obtain ⟨k, al, rfl, hk, has, HAS, hO, hS⟩ := hrel
    obtain ⟨Ao, co, rfl, -⟩ := own_shape hO
    have HO := Lib.hid hO
    have HS := Lib.hid hS
    have HA3 := Lib.hid (HA2.out.moved hS.1 (fun _ _ h => by cases h))
    clear hO hS
    by_cases hlt : k < ps.length
    · obtain ⟨b1, o1, B1, c1, p, rfl, hp1, hc1, hr1, hn1, -⟩ := HA3.out.at_ (i := k) hlt
      have HT := Lib.hid (show al ++ p = (ps.take (k + 1)).flatten by rw [HAS.out, flat_step hp1])
      have hle : al.length + p.length ≤ 262144 := by
        have h1 := congrArg List.length HT.out
        rw [List.length_append] at h1
        have h2 := flat_take_le (ps := ps) (k + 1)
        omega
      have HR1 := Lib.hid hr1
      have HN1 := Lib.hid hn1
      clear hp1 hr1 hn1
      go_wp2_with (at_builtin; refine wpList_append_row rfl _ _ 25 rfl 5 i0 .u8 1 Tryd.underlying25 hi hz0 hz1 hz2 (.slice Ao al.length co) _ _ rfl HO.out B1 p.length c1 p rfl rfl HR1.out HN1.out (by unfold maxLen; omega) (by omega) ?_)
      intro v2 w3 hown hst
      have HO3 := Lib.hid (show w3.ownsRow 0 5 1 v2 (al ++ p).length ((al ++ p).map (Value.int .u8)) by rw [List.length_append, List.map_append]; exact hown)
      have HS3 := Lib.hid (show Step w2 w3 [] (rowOf v2) from ⟨HS.out.1.trans hst.1 (fun b hb => .inr (Step.new HS.out b hb)), fun b hb => .inr ((hst.2 b hb).elim (Step.new HS.out b) (fun h => Nat.le_trans HS.out.1.size h))⟩)
      clear hown hst
      obtain ⟨A3, c3, rfl, -⟩ := own_shape HO3.out
      go_wp2
      go_roundw
      case rel => exact ⟨k + 1, al ++ p, by go_num, by omega, by simp; omega, HT.out, HO3.out, HS3.out⟩
      case measure => simp [intOf]; omega
    · have HAS2 := Lib.hid (show al = ps.flatten by rw [HAS.out, List.take_of_length_le (by omega)])
      have HBA := Lib.hid (show ByteList al by rw [HAS2.out]; exact flat_bytes HB.out)
      obtain ⟨sm, hsm⟩ : ∃ sm, sm = sumOf (nats al) := ⟨_, rfl⟩
      have HS1 := Lib.hid (show sumOf (nats ps.flatten) = sm by rw [← HAS2.out, hsm])
      have HS4 := Lib.hid (show sumOf (nats [al].flatten) = sm by rw [hsm]; simp)
      have HS5 := Lib.hid (show sumOf (nats al) = sm from hsm.symm)
      have HBI3 := Lib.hid (HBI.out.moved HS.out.1 (fun _ _ h => by cases h))
      have HMW := Lib.hid (HM2.out.trans HS.out.1 (fun _ h => by cases h))
      clear hsm
      have hn2 : ps.length ≤ 1099511627776 := by omega
      go_wp2_with fail
      refine (F.sum Ai _ ci ui ps wr HBI3.out rfl HB.out hn2 (HLD.out.moved HMW.out)).mono ?_
      rw [HS1.out]
      rintro e w5 ⟨rfl, k5, hw5⟩
      have HM5 := Lib.hid (show Moved wr w5 [] by rw [hw5]; exact (Moved.refl wr []).drewN _)
      clear hw5
      have HO5 := Lib.hid (own_moved HO.out HM5.out (fun _ _ h => by cases h))
      have HBO := Lib.hid (brows_one 25 HO5.out)
      go_wp2_with fail
      refine (refsum_any Ao _ co al w5 (NRow.of_own HO5.out) rfl HBA.out (by omega)).mono ?_
      rw [HS5.out]
      rintro e w6 ⟨rfl, rfl⟩
      go_wp2_with fail
      refine (F.sum _ 1 1 [.slice Ao al.length co] [al] _ HBO.out rfl (fun p hp => by simp at hp; subst hp; exact HBA.out) (by simp) (by exact ((HLD.out.moved HMW.out).moved HM5.out).alloc _)).mono ?_
      rw [HS4.out]
      rintro e w7 ⟨rfl, k7, hw7⟩
      have HM7 := Lib.hid (show Moved wr w7 [] by rw [hw7]; exact (HM5.out.alloc _).drewN _)
      clear hw7
      have HO7 := Lib.hid (own_moved HO.out HM7.out (fun _ _ h => by cases h))
      have HBI7 := Lib.hid (HBI3.out.moved HM7.out (fun _ _ h => by cases h))
      have HA7 := Lib.hid (HA3.out.moved HM7.out (fun _ _ h => by cases h))
      go_wp2_with fail
      refine (refsum_any Ao _ co al w7 (NRow.of_own HO7.out) rfl HBA.out (by omega)).mono ?_
      rw [HS5.out]
      rintro e w8 ⟨rfl, rfl⟩
      go_wp2_with fail
      refine (rows_any _ _ _ _ _ _ ui vs ps ps w7 HBI7.out HA7.out rfl rfl HB.out HB.out (by omega) (by omega)).mono ?_
      rintro e w9 ⟨rfl, k9, hw9⟩
      rw [show decide (ps = ps) = true by simp]
      have HM9 := Lib.hid (show Moved wr w9 [] by rw [hw9]; exact HM7.out.drewN _)
      clear hw9
      go_wp2_with fail
      refine (frame_wakes F _ (by exact (HLD.out.moved HMW.out).moved HM9.out)).mono ?_
      rintro e w10 ⟨rfl, hM10⟩
      have HM10 := Lib.hid hM10
      clear hM10
      go_wp2
      go_ret
      exact ⟨rfl, (HMW.out.trans (HM9.out.trans HM10.out (fun _ h => by cases h)) (fun _ h => by cases h)).below (Nat.le_refl _) (fun _ h => by cases h)⟩
end Fr
end Go.Proofs.YtpcmkjmkaggfbaaDoor
