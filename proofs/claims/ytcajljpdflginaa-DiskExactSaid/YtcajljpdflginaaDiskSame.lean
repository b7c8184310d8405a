/-
  CONTRACT of the statements' helper same: the program's Disk and the page's tell the same of themselves.
-/
import Derived.Test.YtcajljpdflginaaDiskBeside
import Derived.Deep.RegionHeld3
namespace Go.Proofs.Ytcajljpdflginaa
namespace Dk
open Go.RowKit
def SameNow (D : World → Nat → List Nat → DSt → Nat → Prop) (W : World) (p : Nat) (s : DSt) (m q k : Nat) (r : Ending) (w' : World) : Prop :=
  r = .returned (.bool true) ∧ ∃ fp fq, At2 D QObj W w' p fp s m q fq s k
set_option maxRecDepth 100000 in
set_option maxHeartbeats 2000000 in
theorem dsame_any {D : World → Nat → List Nat → DSt → Nat → Prop} (L : DLaws D) (W w : World) (p : Nat) (fp : List Nat) (s : DSt) (m q : Nat) (fq : List Nat) (k : Nat) (h : At2 D QObj W w p fp s m q fq s k) (hm : m ≤ 35184372088832) (hk : k ≤ 35184372088832) :
    Calls Try.prog 11 #[.pointer (some ⟨p, 0, none⟩), .pointer (some ⟨q, 0, none⟩)] w (SameNow D W p s m q k) := by
  have P := L.still
  have O := QStill
  obtain ⟨bs, safe, dead, trip⟩ := s
  obtain ⟨out, hout⟩ : ∃ out, out = DSt.read ⟨bs, safe, dead, trip⟩ := ⟨_, rfl⟩
  obtain ⟨er, her⟩ : ∃ er, er = DSt.off ⟨bs, safe, dead, trip⟩ := ⟨_, rfl⟩
  have HBY : Hid (ByteList out) := by
    show ByteList out
    have := L.bytes h.a.on
    rw [hout]
    cases dead
    · exact this
    · exact ByteList.nil
  have HLN : Hid (out.length ≤ m) := by
    show out.length ≤ m
    have := L.fits h.a.on
    rw [hout]
    cases dead
    · exact this
    · exact Nat.zero_le _
  have HO := Lib.hid hout
  have HE := Lib.hid her
  have H := Lib.hid h
  clear hout her h
  go_enter Try.func11, Try.ntmps11
  go_wp2_with fail
  refine (H.out.read L O (e := er) (out := out) HE.out.symm HO.out.symm hm).mono ?_
  rintro e w1 ⟨A1, c1, f1, rfl, hT1, hTa1, hTb1, hTc1, h1, hM1⟩
  have H1 := Lib.hid h1
  have HT1 := Lib.hid hT1
  have HF1 := Lib.hid hTc1
  clear h1 hT1 hTa1 hTb1 hTc1 hM1
  go_wp2_with fail
  refine (qread_any q fq _ k w1 H1.out.b.on hk).mono ?_
  rintro e w2 ⟨v2, rfl, hO2, hS2⟩
  rw [← HE.out, ← HO.out] at *
  obtain ⟨A2, c2, rfl, -⟩ := own_shape hO2
  have hn2 : ∀ j ∈ rowOf (.slice A2 out.length c2), w1.heap.size ≤ j := fun j hj => (hS2.2 j hj).elim (fun h => by cases h) id
  have H2 := Lib.hid (H1.out.apart_from P O hS2.1 (fun j hj => by cases hj))
  have HT2 := Lib.hid (t_stays HT1.out (fun j hj => hS2.1.block j (t_lt HT1.out j hj) (by simp)))
  have HO2 := Lib.hid hO2
  have hc := q_cells H2.out.b.on
  obtain ⟨hc1, hc2⟩ := hc
  clear hO2 hS2 hn2
  go_wp2_with fail
  go_region_held3 (fun w' => w'.cell? ⟨q, 1, none⟩ = some (.int .i64 safe) ∧ w'.cell? ⟨q, 2, none⟩ = some (.bool dead)) (go_keep) (first
    | (go_at_call 23; refine (bytes_is _ _ _ _ _ _ out out _ (by exact HT2.out.nrow) (by exact NRow.of_own HO2.out) rfl rfl HBY.out HBY.out true (by simp)).mono ?_; rintro e w3 ⟨rfl, rfl⟩)
    | (go_at_call 21; refine (L.synced p f1 _ m _ (by exact (H2.out.drew P O).a.on) hm).mono ?_; rintro e w4 hd; obtain ⟨rfl, f4, h4, hS4⟩ := (H2.out.drew P O).does1 O hd; have HR4 := Lib.hid (kept_row (w := w2.drew) (t_stays HT2.out (fun _ _ => rfl)) hS4 (fun j hj => (HF1.out j hj).2.1)); clear hS4; have hq := q_cells h4.b.on; obtain ⟨hq1, hq2⟩ := hq; have H4 := Lib.hid h4; clear h4 hd)
    | (go_at_call 18; refine (L.off p f4 _ m _ (by exact H4.out.a.on)).mono ?_; rintro e w5 hd; obtain ⟨rfl, f5, h5, hS5⟩ := H4.out.does1 O hd; have HR5 := Lib.hid (kept_row HR4.out.1 hS5 HR4.out.2); clear hS5; have hq := q_cells h5.b.on; obtain ⟨hq3, hq4⟩ := hq; have H5 := Lib.hid h5; clear h5 hd))
  clear hq1 hq2 hq3 hq4 hc1 hc2
  go_wp2_with (go_at_call 27; refine (tspoil_any _ _ _ _ HR5.out.1 (by have := HLN.out; omega)).mono ?_; rintro e w6 ⟨rfl, hM6⟩; have HM6 := Lib.hid hM6; clear hM6)
  go_ret
  exact ⟨rfl, f5, fq, H5.out.apart_from P O HM6.out (fun j hj => ⟨(HF1.out j hj).1, HR5.out.2 j hj, (HF1.out j hj).2.2⟩)⟩
end Dk
end Go.Proofs.Ytcajljpdflginaa
