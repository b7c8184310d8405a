/-
  CONTRACT of hanseref04.Scan.
-/
import Derived.Test.YtpcmkjmkaggfbaaDoorFrameRefFirst
import Derived.Test.YtpcmkjmkaggfbaaDoorOwnRows
namespace Go.Proofs.YtpcmkjmkaggfbaaDoor
namespace Fr
open Go.RowKit
theorem first_len {xs p : List Int} (h : firstOf xs = some p) : 8 + p.length ≤ xs.length := by
  unfold firstOf at h
  split at h
  · cases h
  · split at h
    · cases h
    · split at h
      · cases h; simp; omega
      · cases h
/-- The payloads of the frames one behind the other, and where the last of them ends. -/
def scanOf (xs : List Int) : List (List Int) × Nat :=
  match h : firstOf xs with
  | none => ([], 0)
  | some p => (p :: (scanOf (xs.drop (8 + p.length))).1, 8 + p.length + (scanOf (xs.drop (8 + p.length))).2)
termination_by xs.length
decreasing_by all_goals (have := first_len h; simp; omega)
theorem scan_none {xs : List Int} (h : firstOf xs = none) : scanOf xs = ([], 0) := by
  rw [scanOf]; split
  · rfl
  · rename_i p hp; rw [h] at hp; cases hp
theorem scan_some {xs p : List Int} (h : firstOf xs = some p) : scanOf xs = (p :: (scanOf (xs.drop (8 + p.length))).1, 8 + p.length + (scanOf (xs.drop (8 + p.length))).2) := by
  rw [scanOf]; split
  · rename_i hp; rw [h] at hp; cases hp
  · rename_i q hp; rw [h] at hp; cases hp; rfl
def ScanIs (xs : List Int) (ps : List (List Int)) (n : Nat) : Prop := scanOf xs = (ps ++ (scanOf (xs.drop n)).1, n + (scanOf (xs.drop n)).2)
theorem scan_start (xs : List Int) : ScanIs xs [] 0 := by simp [ScanIs]
theorem scan_end {xs : List Int} {ps : List (List Int)} {n : Nat} (h : ScanIs xs ps n) (hf : firstOf (xs.drop n) = none) : scanOf xs = (ps, n) := by
  rw [h, scan_none hf]; simp
theorem scan_go {xs p : List Int} {ps : List (List Int)} {n : Nat} (h : ScanIs xs ps n) (hf : firstOf (xs.drop n) = some p) : ScanIs xs (ps ++ [p]) (n + (8 + p.length)) := by
  unfold ScanIs at *
  rw [h, scan_some hf, List.drop_drop]
  simp [Nat.add_assoc]
theorem info_bytes : (Tryd.prog.info? 25).map (fun i => (i.zero, i.size, i.bytes)) = some (some (.slice none 0 0), 1, 24) := by kernel_rfl
/-- New rows of bytes, and a place. -/
def ToldS (ps : List (List Int)) (n : Int) (w : World) (r : Ending) (w' : World) : Prop :=
  ∃ v fp, r = .returned (.tuple #[v, .int .i64 n]) ∧ OwnRows w' v ps fp ∧ Step w w' [] fp
theorem step_join {w w1 w2 : World} {S T U V : List Nat} (h1 : Step w w1 S T) (h2 : Step w1 w2 (T ++ U) V) (hU : ∀ k ∈ U, w.heap.size ≤ k) : Step w w2 S V :=
  ⟨h1.1.trans h2.1 (fun k hk => (List.mem_append.1 hk).elim (h1.2 k) (fun h => .inr (hU k h))), fun k hk => (h2.2 k hk).elim (fun h => (List.mem_append.1 h).elim (h1.2 k) (fun h => .inr (hU k h))) (fun h => .inr (Nat.le_trans h1.1.size h))⟩
set_option maxRecDepth 100000 in
set_option maxHeartbeats 2000000 in
theorem refscan_any (A : Option Addr) (n c : Nat) (xs : List Int) (w : World) (hA : NRow .u8 w A xs) (hn : xs.length = n) (hb : ByteList xs) (hnil : A = none → c = 0) (hc : n ≤ c) (hc2 : c ≤ 9223372036854775807) (hlen : n ≤ 1099511627776) :
    Calls Tryd.prog 25 #[.slice A n c] w (ToldS (scanOf xs).1 (scanOf xs).2 w) := by
  subst hn
  obtain ⟨i0, hi, hz0, hz1, hz2⟩ := info_parts info_bytes
  have HA := Lib.hid hA
  have HB := Lib.hid hb
  have HNIL := Lib.hid hnil
  clear hA hb hnil
  go_enter Tryd.func25, Tryd.ntmps25
  go_wp2
  go_loopw [4, 5] (fun v i wr => ∃ (k : Nat) (ps : List (List Int)) (fp : List Nat), i = .int .i64 k ∧ k ≤ xs.length ∧ ps.length ≤ k ∧ OwnRows wr v ps fp ∧ Step w wr [] fp ∧ Hid (ScanIs xs ps k)) (fun _ i _ => xs.length - (intOf i).toNat)
  case atStart => exact ⟨0, [], [], rfl, by omega, by simp, OwnRows.nil _, Step.refl _ _, scan_start xs⟩
  case round =>
    obtain ⟨k, ps, fp, rfl, hk, hpk, hO, hS, H⟩ := hrel
    have HO := Lib.hid hO
    have HS := Lib.hid hS
    obtain ⟨Ao, co, vs0, rfl, -, -⟩ := hO.reads
    have HA1 := Lib.hid (nrowx_moved HA.out hS.1 (fun _ _ h => by cases h))
    clear hO hS
    by_cases hck : c = k
    · have hf : firstOf (xs.drop k) = none := by rw [List.drop_of_length_le (by omega), firstOf, if_pos (by simp)]
      have HE := Lib.hid (scan_end H.out hf)
      have HF := Lib.hid (first_none hf)
      have HD := Lib.hid (show xs.drop k = [] from List.drop_of_length_le (by omega))
      obtain rfl := hck
      clear hf
      go_wp2_with fail
      refine (reffirst_any A _ _ (xs.drop c) wr (by rw [HD.out]; exact NRow.none_ _ _ _) (by rw [HD.out]; simp; try omega) (HB.out.drop c) (fun _ => by omega) (by omega) (by omega) (by omega)).mono ?_
      rw [HF.out.1, HF.out.2.1, HF.out.2.2]
      rintro e w1 ⟨v1, rfl, hO1, hS1⟩
      have HM1 := Lib.hid hS1.1
      clear hO1 hS1
      go_wp2
      go_ret2
      exact ⟨_, fp, by rw [HE.out]; rfl, by rw [HE.out]; exact HO.out.moved HM1.out (fun _ _ h => by cases h), HS.out.1.trans HM1.out (fun _ h => by cases h), fun j hj => HS.out.2 j hj⟩
    · obtain ⟨ad, rfl⟩ : ∃ ad, A = some ad := by
        rcases A with _ | ad
        · exact absurd (HNIL.out rfl) (by omega)
        · exact ⟨ad, rfl⟩
      have hck2 : k < c := by omega
      have HA2 := Lib.hid (nrow_from HA1.out k)
      cases hf : firstOf (xs.drop k) with
      | none =>
        have HE := Lib.hid (scan_end H.out hf)
        have HF := Lib.hid (first_none hf)
        clear hf
        go_wp2_with fail
        refine (reffirst_any (some (ad.add k)) _ _ (xs.drop k) wr HA2.out (by simp) (HB.out.drop k) (fun h => by cases h) (by omega) (by omega) (by omega)).mono ?_
        rw [HF.out.1, HF.out.2.1, HF.out.2.2]
        rintro e w1 ⟨v1, rfl, hO1, hS1⟩
        have HM1 := Lib.hid hS1.1
        clear hO1 hS1
        go_wp2
        go_ret2
        exact ⟨_, fp, by rw [HE.out]; rfl, by rw [HE.out]; exact HO.out.moved HM1.out (fun _ _ h => by cases h), HS.out.1.trans HM1.out (fun _ h => by cases h), fun j hj => HS.out.2 j hj⟩
      | some p =>
        have HG := Lib.hid (scan_go H.out hf)
        have HF := Lib.hid (first_some hf)
        have hpl := first_len hf
        have hpl : 8 + p.length ≤ xs.length - k := by simpa using hpl
        clear hf H
        go_wp2_with fail
        refine (reffirst_any (some (ad.add k)) _ _ (xs.drop k) wr HA2.out (by simp) (HB.out.drop k) (fun h => by cases h) (by omega) (by omega) (by omega)).mono ?_
        rw [HF.out.1, HF.out.2.1, HF.out.2.2]
        rintro e w1 ⟨u1, rfl, hO1, hS1⟩
        obtain ⟨Au, cu, rfl, -⟩ := own_shape hO1
        have hO2 := HO.out.moved hS1.1 (fun _ _ h => by cases h)
        obtain ⟨vs, hfp, hr, hl, he, ha, hd⟩ := hO2.stays (w' := w1.alloc (.cells #[.slice Au p.length cu] 25)) (fun j hj => Below.heap_alloc w1 _ j (hO2.lt j hj))
        have HR := Lib.hid hr
        have HU := Lib.hid (hO1.alloc (.cells #[.slice Au p.length cu] 25))
        have HS1 := Lib.hid hS1
        have HUA := Lib.hid (fun b hb h => by
          have h1 := (hS1.2 b hb).elim (fun h => by cases h) id
          have h2 := HO.out.lt b (by rw [hfp]; exact List.mem_append.2 (.inl h))
          omega : ∀ b ∈ rowOf (.slice Au p.length cu), b ∉ rowOf (.slice Ao ps.length co))
        have HUP := Lib.hid (fun b hb h => by
          have h1 := (hS1.2 b hb).elim (fun h => by cases h) id
          have h2 := HO.out.lt b (by rw [hfp]; exact List.mem_append.2 (.inr h))
          omega : ∀ b ∈ rowOf (.slice Au p.length cu), b ∉ partsOf vs)
        have HDD := Lib.hid hd
        have HFP := Lib.hid hfp
        have HL := Lib.hid hl
        have HEE := Lib.hid he
        have HAA := Lib.hid ha
        clear hO1 hO2 hS1 hfp hr hl he ha hd
        go_wp2_with (at_builtin; refine wpList_append_vals rfl _ _ 22 rfl 25 i0 (.slice none 0 0) 24 Tryd.underlying22 hi hz0 rfl hz1 hz2 (.slice Ao ps.length co) _ _ rfl HR.out _ 1 1 [.slice Au p.length cu] rfl rfl (vrow_lit _ _ _) (fun u hu => by simp at hu; subst hu; rfl) (fun h => by cases h) (by unfold maxLen; omega) (by omega) ?_)
        intro v2 w2 hown hst
        obtain ⟨fp2, hO3, hS3⟩ := OwnRows.push HFP.out HL.out HEE.out HAA.out HU.out HUA.out HDD.out HUP.out hown hst
        obtain ⟨A3, c3, vs3, rfl, -⟩ := hO3.reads
        have HO3 := Lib.hid hO3
        have HS3 := Lib.hid (step_join (HS.out) (S := []) (T := fp) (U := rowOf (.slice Au p.length cu)) (show Step _ w2 (fp ++ rowOf (.slice Au p.length cu)) fp2 from ⟨((HS1.out.1.mono (fun _ h => by cases h)).alloc _).trans hS3.1 (fun j hj => .inl hj), fun j hj => (hS3.2 j hj).imp id (fun h => Nat.le_trans (Nat.le_trans HS1.out.1.size (by simp)) h)⟩) (fun j hj => (HS1.out.2 j hj).elim (fun h => by cases h) (fun h => Nat.le_trans HS.out.1.size h)))
        clear hown hst hO3 hS3
        go_wp2
        go_roundw
        case rel => exact ⟨k + (8 + p.length), ps ++ [p], fp2, by go_num, by omega, by simp; omega, HO3.out, HS3.out, HG.out⟩
        case measure => simp [intOf]; omega
end Fr
end Go.Proofs.YtpcmkjmkaggfbaaDoor
