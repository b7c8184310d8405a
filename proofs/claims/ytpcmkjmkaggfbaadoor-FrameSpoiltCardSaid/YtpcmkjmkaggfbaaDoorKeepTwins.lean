/-
  CONTRACTS of hansekeep.Twins and of hanselaw04's heavy.
-/
import Derived.Test.YtpcmkjmkaggfbaaDoorFrameScans
namespace Go.Proofs.YtpcmkjmkaggfbaaDoor
namespace Fr
open Go.RowKit
theorem take_snoc {α : Type} {l : List α} {k : Nat} {x : α} (h : l[k]? = some x) : l.take (k + 1) = l.take k ++ [x] := by rw [List.take_add_one, h]; rfl
theorem flat_step {ps : List (List Int)} {k : Nat} {p : List Int} (h : ps[k]? = some p) : (ps.take (k + 1)).flatten = (ps.take k).flatten ++ p := by rw [take_snoc h]; simp
theorem flat_len_step {ps : List (List Int)} {k : Nat} {p : List Int} (h : ps[k]? = some p) : (ps.take (k + 1)).flatten.length = (ps.take k).flatten.length + p.length := by rw [flat_step h, List.length_append]
set_option maxRecDepth 100000 in
set_option maxHeartbeats 2000000 in
theorem heavy_any (A : Option Addr) (n c : Nat) (vs : List Value) (ps : List (List Int)) (w : World) (hA : BRows w A vs ps) (hn : ps.length = n) (hl : n ≤ 9223372036854775807) :
    Calls Tryd.prog 11 #[.slice A n c] w fun e w' => ∃ b, e = .returned (.bool b) ∧ (b = false → ps.length ≤ 64 ∧ ps.flatten.length ≤ 262144) ∧ ∃ k, w' = w.drewN k := by
  subst hn
  by_cases hbig : 64 < ps.length
  · clear hA
    go_enter Tryd.func11, Tryd.ntmps11
    go_wp2
    all_goals
      go_ret
      exact ⟨true, rfl, (fun h => by cases h), 0, rfl⟩
  have HA := Lib.hid hA
  clear hA
  go_enter Tryd.func11, Tryd.ntmps11
  go_wp2
  go_loopw [3, 4] (fun nn i wr => ∃ k : Nat, nn = .int .i64 ((ps.take k).flatten.length : Nat) ∧ i = .int .i64 k ∧ k ≤ ps.length ∧ (ps.take k).flatten.length ≤ 524288 ∧ ∃ d, wr = w.drewN d) (fun _ i _ => ps.length - (intOf i).toNat)
  case atStart => exact ⟨0, by simp, rfl, by omega, by simp, 0, rfl⟩
  case round =>
    obtain ⟨k, rfl, rfl, hk, hs, d, rfl⟩ := hrel
    obtain ⟨m, hm⟩ : ∃ m, m = (ps.take k).flatten.length := ⟨_, rfl⟩
    have HM := Lib.hid hm
    rw [← hm] at hs ⊢
    clear hm
    by_cases hroom : m ≤ 262144
    · by_cases hlt : k < ps.length
      · obtain ⟨b1, o1, B1, c1, p, rfl, hp1, hc1, hr1, -⟩ := HA.out.at_ (i := k) hlt
        have HF := Lib.hid (flat_len_step hp1)
        clear hp1 hr1
        by_cases hlong : 262144 < p.length
        · go_wp2
          all_goals
            go_ret
            exact ⟨true, rfl, (fun h => by cases h), _, rfl⟩
        · go_wp2
          go_roundw
          case rel => exact ⟨k + 1, by rw [HF.out, ← HM.out]; go_num, by go_num, by omega, by rw [HF.out, ← HM.out]; omega, _, rfl⟩
          case measure => simp [intOf]; omega
      · have HE := Lib.hid (show ps.flatten.length ≤ 262144 by rw [← List.take_of_length_le (l := ps) (i := k) (by omega), ← HM.out]; exact hroom)
        go_wp2
        all_goals
          go_ret
          exact ⟨_, rfl, fun _ => ⟨by omega, HE.out⟩, _, rfl⟩
    · by_cases hlt : k < ps.length
      · go_wp2
        all_goals
          go_ret
          exact ⟨true, rfl, (fun h => by cases h), _, rfl⟩
      · go_wp2
        all_goals
          go_ret
          exact ⟨_, rfl, (fun h => absurd h (by simp; omega)), _, rfl⟩
set_option maxRecDepth 100000 in
set_option maxHeartbeats 2000000 in
theorem twins_any (A : Option Addr) (n c : Nat) (vs : List Value) (ps : List (List Int)) (w : World) (hA : BRows w A vs ps) (hn : ps.length = n) (hl : n ≤ 1099511627776) (hpl : ∀ p ∈ ps, p.length ≤ 70368744177664) :
    Calls Tryd.prog 12 #[.slice A n c] w fun e w' => ∃ v fp, e = .returned v ∧ OwnRows w' v ps fp ∧ Step w w' [] fp := by
  subst hn
  obtain ⟨i0, hi, hz0, hz1, hz2⟩ := info_parts info_bytes
  have HA := Lib.hid hA
  have HPL := Lib.hid hpl
  clear hA hpl
  go_enter Tryd.func12, Tryd.ntmps12
  go_wp2
  go_loopw [3, 4] (fun v i wr => ∃ (k : Nat) (qs : List (List Int)) (fp : List Nat), i = .int .i64 k ∧ k ≤ ps.length ∧ qs.length ≤ k ∧ Hid (qs.length = k) ∧ Hid (qs = ps.take k) ∧ OwnRows wr v qs fp ∧ Step w wr [] fp) (fun _ i _ => ps.length - (intOf i).toNat)
  case atStart => exact ⟨0, [], [], rfl, by omega, by simp, rfl, by simp [Hid], OwnRows.nil _, Step.refl _ _⟩
  case round =>
    obtain ⟨k, qs, fp, rfl, hk, hqk, HQL, HQ, hO, hS⟩ := hrel
    have HO := Lib.hid hO
    have HS := Lib.hid hS
    obtain ⟨Ao, co, vs0, rfl, -, -⟩ := hO.reads
    have HA1 := Lib.hid (HA.out.moved hS.1 (fun _ _ h => by cases h))
    clear hO hS
    by_cases hlt : k < ps.length
    · obtain ⟨b1, o1, B1, c1, p, rfl, hp1, hc1, hr1, hn1, -⟩ := HA1.out.at_ (i := k) hlt
      have hp2 := HPL.out p (List.mem_of_getElem? hp1)
      have HT := Lib.hid (show qs ++ [p] = ps.take (k + 1) by rw [HQ.out, take_snoc hp1])
      have HR1 := Lib.hid hr1
      have HN1 := Lib.hid hn1
      clear hp1 hr1 hn1
      go_wp2_with fail
      refine (twin_any _ _ c1 p wr HR1.out rfl HN1.out hp2).mono ?_
      rintro e w1 ⟨u1, rfl, hO1, hS1⟩
      obtain ⟨Au, cu, rfl, -⟩ := own_shape hO1
      have hO2 := HO.out.moved hS1.1 (fun _ _ h => by cases h)
      obtain ⟨vs2, hfp, hr, hl2, he, ha, hd⟩ := hO2.stays (w' := w1.alloc (.cells #[.slice Au p.length cu] 25)) (fun j hj => Below.heap_alloc w1 _ j (hO2.lt j hj))
      have HR := Lib.hid hr
      have HU := Lib.hid (hO1.alloc (.cells #[.slice Au p.length cu] 25))
      have HS1 := Lib.hid hS1
      have HUA := Lib.hid (fun b hb h => by
        have h1 := (hS1.2 b hb).elim (fun h => by cases h) id
        have h2 := HO.out.lt b (by rw [hfp]; exact List.mem_append.2 (.inl h))
        omega : ∀ b ∈ rowOf (.slice Au p.length cu), b ∉ rowOf (.slice Ao qs.length co))
      have HUP := Lib.hid (fun b hb h => by
        have h1 := (hS1.2 b hb).elim (fun h => by cases h) id
        have h2 := HO.out.lt b (by rw [hfp]; exact List.mem_append.2 (.inr h))
        omega : ∀ b ∈ rowOf (.slice Au p.length cu), b ∉ partsOf vs2)
      have HDD := Lib.hid hd
      have HFP := Lib.hid hfp
      have HL := Lib.hid hl2
      have HEE := Lib.hid he
      have HAA := Lib.hid ha
      clear hO1 hO2 hS1 hfp hr hl2 he ha hd
      go_wp2_with (at_builtin; refine wpList_append_vals rfl _ _ 22 rfl 25 i0 (.slice none 0 0) 24 Tryd.underlying22 hi hz0 rfl hz1 hz2 (.slice Ao qs.length co) _ _ rfl HR.out _ 1 1 [.slice Au p.length cu] rfl rfl (vrow_lit _ _ _) (fun u hu => by simp at hu; subst hu; rfl) (fun h => by cases h) (by unfold maxLen; omega) (by omega) ?_)
      intro v2 w2 hown hst
      obtain ⟨fp2, hO3, hS3⟩ := OwnRows.push HFP.out HL.out HEE.out HAA.out HU.out HUA.out HDD.out HUP.out hown hst
      have HO3 := Lib.hid hO3
      have HS3 := Lib.hid (step_join (HS.out) (S := []) (T := fp) (U := rowOf (.slice Au p.length cu)) (show Step _ w2 (fp ++ rowOf (.slice Au p.length cu)) fp2 from ⟨((HS1.out.1.mono (fun _ h => by cases h)).alloc _).trans hS3.1 (fun j hj => .inl hj), fun j hj => (hS3.2 j hj).imp id (fun h => Nat.le_trans (Nat.le_trans HS1.out.1.size (by simp)) h)⟩) (fun j hj => (HS1.out.2 j hj).elim (fun h => by cases h) (fun h => Nat.le_trans HS.out.1.size h)))
      clear hown hst hO3 hS3
      obtain ⟨A3, c3, vs3, rfl, -⟩ := HO3.out.reads
      go_wp2
      go_roundw
      case rel => exact ⟨k + 1, qs ++ [p], fp2, by go_num, by omega, by simp; omega, by have h := HQL.out; simp [Hid]; omega, HT.out, HO3.out, HS3.out⟩
      case measure => simp [intOf]; omega
    · have HT := Lib.hid (show qs = ps by rw [HQ.out]; exact List.take_of_length_le (by omega))
      go_wp2
      go_ret
      exact ⟨_, fp, rfl, by rw [← HT.out]; exact HO.out, HS.out⟩
end Fr
end Go.Proofs.YtpcmkjmkaggfbaaDoor
