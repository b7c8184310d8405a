/-
  CONTRACT of the statements' helper opened.
-/
import Derived.Test.YtekleamkpfeifaaDoorLogClean
import Derived.Test.YtekleamkpfeifaaDoorDiskBeside
namespace Go.Proofs.YtekleamkpfeifaaDoor
namespace Lg
open Go.RowKit Dk Fr
/-- A Disk, the Log that keeps it, and the page's Disk, all in one state; the bytes are a journal's whole. -/
structure PAt (D : World → Nat → List Nat → DSt → Nat → Prop) (G : World → Nat → Nat → List Nat → List Int → List (List Int) → Nat → Prop) (W w : World) (p l : Nat) (fd fl : List Nat) (q : Nat) (fq : List Nat) (s : DSt) (sn : List Int) (rs : List (List Int)) (m : Nat) : Prop where
  log : LAt D G W w p l fd fl s sn rs m
  page : At QObj W w q fq s m
  apart : ∀ k ∈ fd ++ fl, k ∉ fq
  live : s.dead = false
  clean : logOf s.bs = (sn, rs, s.bs.length)
def OpenedNow (D : World → Nat → List Nat → DSt → Nat → Prop) (G : World → Nat → Nat → List Nat → List Int → List (List Int) → Nat → Prop) (W : World) (p q m : Nat) (r : Ending) (w' : World) : Prop :=
  ∃ l fd fl fq s sn rs, r = .returned (.pointer (some ⟨l, 0, none⟩)) ∧ PAt D G W w' p l fd fl q fq s sn rs m
set_option maxRecDepth 100000 in
set_option maxHeartbeats 2000000 in
theorem opened_any {D : World → Nat → List Nat → DSt → Nat → Prop} {G : World → Nat → Nat → List Nat → List Int → List (List Int) → Nat → Prop} (L : LLaws D G) (W w : World) (p : Nat) (fp : List Nat) (s : DSt) (m q : Nat) (fq : List Nat) (h : At2 D QObj W w p fp s m q fq s m) (hm : m ≤ 1073741824) (hld : Ld W) :
    Calls Tryd.prog 12 #[.pointer (some ⟨p, 0, none⟩), .pointer (some ⟨q, 0, none⟩)] w (OpenedNow D G W p q m) := by
  have P := L.disk.still
  have O := QStill
  have H := Lib.hid h
  have HLD := Lib.hid hld
  clear h hld
  go_enter Tryd.func12, Tryd.ntmps12
  go_wp2
  go_loopw [5] (fun i wr => ∃ (k : Nat) (s : DSt) (fp fq : List Nat), i = .int .i64 k ∧ k ≤ 1 ∧ Hid (k = 1 → s.trip = none) ∧ At2 D QObj W wr p fp s m q fq s m) (fun i _ => 2 - (intOf i).toNat)
  case atStart => exact ⟨0, s, fp, fq, rfl, by omega, (fun h => by omega), H.out⟩
  case round =>
    obtain ⟨k, s, fp, fq, rfl, hk, HK, hT⟩ := hrel
    have HT := Lib.hid hT
    obtain ⟨s1, hs1⟩ : ∃ s1, s1 = s.start := ⟨_, rfl⟩
    have HS1 := Lib.hid hs1
    have HLV := Lib.hid (show s1.dead = false by rw [hs1]; exact start_live s)
    have HCA := Lib.hid (fun h => by rw [hs1]; exact start_calm (HK.out h) : k = 1 → s1.trip = none)
    clear hT hs1
    go_wp2_with fail
    refine (HT.out.start L.disk O (s' := s1) HS1.out.symm (by omega)).mono ?_
    rintro e w1 ⟨rfl, f1, h1⟩
    have H1 := Lib.hid h1
    clear h1
    go_wp2_with fail
    refine (qstart_any q fq s m w1 H1.out.b.on (by omega)).mono ?_
    rintro e w2 hd
    obtain ⟨rfl, g1, h2, -⟩ := H1.out.does2 P hd
    rw [← HS1.out] at h2
    have H2 := Lib.hid h2
    obtain ⟨e0, he0⟩ : ∃ e0, e0 = (openSt s1).1 := ⟨_, rfl⟩
    obtain ⟨s2, hs2⟩ : ∃ s2, s2 = (openSt s1).2 := ⟨_, rfl⟩
    have HE0 := Lib.hid he0
    have HS2 := Lib.hid hs2
    clear h2 hd he0 hs2
    go_wp2_with fail
    refine (L.open_ p f1 s1 m w2 H2.out.a.on hm (HLD.out.moved H2.out.a.old)).mono ?_
    rw [← HE0.out, ← HS2.out]
    rintro e w3 ⟨f3, hD, (⟨h0, l, fl, rfl, hG, hS, hf⟩ | ⟨hne, rfl, hS⟩)⟩
    · have hq3 := H2.out.b.keeps O hS H2.out.a.new H2.out.apart
      have hl3 : LAt D G W w3 p l f3 fl s2 (logOf s1.bs).1 (logOf s1.bs).2.1 m := ⟨hD, hG, fun k hk => (hf k hk).1, moved_on H2.out.a.old hS H2.out.a.new, fun k hk => new_on H2.out.a.old hS H2.out.a.new k (List.mem_append.2 (.inl hk)), fun k hk => new_on H2.out.a.old hS H2.out.a.new k (List.mem_append.2 (.inr hk))⟩
      have hap : ∀ k ∈ f3 ++ fl, k ∉ g1 := fun k hk hg => (hS.2 k hk).elim (fun h' => H2.out.apart k h' hg) (fun h' => by have := QObj.lt H2.out.b.on k hg; omega)
      have HQ3 := Lib.hid hq3
      have HL3 := Lib.hid hl3
      have HAP := Lib.hid hap
      have HCL := Lib.hid (open_clean (s := s1) (s' := s2) (by rw [HS2.out, ← h0, HE0.out]))
      have H00 := Lib.hid h0
      clear hq3 hl3 hap hD hG hS hf h0
      go_wp2_with fail
      refine (qopen_any q g1 s1 m w3 HQ3.out.on (by omega)).mono ?_
      rw [← HE0.out, ← HS2.out, H00.out]
      rintro e w4 ⟨rfl, g4, hQ4, hS4⟩
      have HL4 := Lib.hid (HL3.out.keeps L hS4 HQ3.out.new (fun k hk => ⟨fun h => HAP.out k (List.mem_append.2 (.inl h)) hk, fun h => HAP.out k (List.mem_append.2 (.inr h)) hk⟩))
      have HQ4 := Lib.hid (HQ3.out.step hQ4 hS4)
      have HAP4 := Lib.hid (fun k hk hg => (hS4.2 k hg).elim (fun h' => HAP.out k hk h') (fun h' => by have := HL3.out.below L k hk; omega) : ∀ k ∈ f3 ++ fl, k ∉ g4)
      clear hQ4 hS4
      go_wp2
      go_ret
      exact ⟨l, f3, fl, g4, s2, _, _, rfl, HL4.out, HQ4.out, HAP4.out, HCL.out.1, HCL.out.2⟩
    · have hor := open_or HLV.out
      rw [← HE0.out, ← HS2.out] at hor
      have h7 : e0 = 7 ∧ s2.dead = true ∧ s2.trip = none ∧ s1.trip ≠ none := hor.resolve_left hne
      obtain ⟨h7a, -, h7c, h7d⟩ := h7
      have hk0 : k = 0 := by
        rcases (by omega : k = 0 ∨ k = 1) with h | h
        · exact h
        · exact absurd (HCA.out h) h7d
      have H3 := Lib.hid (show At2 D QObj W w3 p f3 s2 m q g1 s1 m from H2.out.step O hD hS)
      have HC2 := Lib.hid h7c
      have HE7 := Lib.hid h7a
      obtain rfl := hk0
      clear hor hne hD hS h7a h7c h7d
      rw [HE7.out]
      go_wp2_with fail
      refine (qopen_any q g1 s1 m w3 H3.out.b.on (by omega)).mono ?_
      rw [← HE0.out, ← HS2.out, HE7.out]
      rintro e w4 hd
      obtain ⟨rfl, g4, h4, -⟩ := H3.out.does2 P hd
      have H4 := Lib.hid h4
      clear h4 hd
      go_wp2
      go_roundw
      case rel => exact ⟨1, s2, f3, g4, rfl, by omega, (fun _ => HC2.out), H4.out⟩
      case measure => simp [intOf]
end Lg
end Go.Proofs.YtekleamkpfeifaaDoor
