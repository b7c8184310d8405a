/-
  THE WALK of the statement PackEnds, from what it asks of the program's Reader and Writer.
-/
import Derived.Test.YtgifinilgieonaaPackOnlyWalk
namespace Go.Proofs.Ytgifinilgieonaa
namespace Pk
open Go.RowKit Am
theorem made_zeros (n : Nat) : (madeCells #[Value.int .u8 0] n).toList = (List.replicate n (0 : Int)).map (Value.int .u8) := by
  rw [List.map_replicate]
  exact toList_madeCells_one _ _
/-- A text of n bytes, the first of which is b. -/
def longText (b : Int) (n : Nat) : List Int := (List.replicate n (0 : Int)).set 0 b
theorem longText_len (b : Int) (n : Nat) : (longText b n).length = n := by simp [longText]
theorem longText_bytes {b : Int} {n : Nat} (h : 0 ≤ b ∧ b ≤ 255) : ByteList (longText b n) := by
  intro x hx
  unfold longText at hx
  rcases List.mem_or_eq_of_mem_set hx with hx | rfl
  · rw [List.mem_replicate] at hx; omega
  · exact h
theorem ends_text {l : List Int} (h : l.length ≤ 131072) : (St.ok (enc l.length ++ l ++ enc 5)).text = (l, .ok (enc 5)) := by
  have hu : (St.ok (enc l.length ++ l ++ enc 5)).uint = (l.length, .ok (l ++ enc 5)) := by
    rw [List.append_assoc]; exact uint_back (by omega)
  rw [text_fine hu (by omega) (by simp)]
  simp
theorem ends_five : (St.ok (enc 5)).uint = (5, .ok []) := by
  have h := uint_back (v := 5) (r := []) (by omega)
  simpa using h
set_option maxRecDepth 100000 in
set_option maxHeartbeats 600000 in
theorem ends_any {R : World → Nat → List Nat → St → Prop} (L : RLaws R) {Wr : World → Nat → List Nat → WSt → Nat → Prop} (V : WLaws Wr) (W : ∀ w, Calls Try.prog 14 #[] w fun e w' => e = .returned (.bool true) ∧ Moved w w' [])
    (b n : Int) (w : World) (hb : 0 ≤ b ∧ b ≤ 255) :
    Calls Try.prog 7 #[.int .u8 b, .int .i64 n] w fun e w' => e = .returned (.bool true) ∧ Below w.heap.size w w' := by
  by_cases hn0 : n < 0
  · go_enter Try.func7, Try.ntmps7
    go_wp2
    go_ret
    exact ⟨rfl, Below.refl _ _⟩
  by_cases hn2 : 2 < n
  · go_enter Try.func7, Try.ntmps7
    go_wp2
    go_ret
    exact ⟨rfl, Below.refl _ _⟩
  obtain ⟨m, rfl⟩ : ∃ m : Nat, n = m := ⟨n.toNat, by omega⟩
  obtain ⟨i0, hi, hz0, hz1, hz2⟩ := info_parts info_u8
  have hm2 : m ≤ 2 := by omega
  have HBB := Lib.hid (longText_bytes (n := 131071 + m) hb)
  go_enter Try.func7, Try.ntmps7
  go_wp2_with (at_make; refine wpList_make_full _ rfl _ _ 22 rfl 0 5 i0 (.int .u8 0) 1 Try.underlying22 hi hz0 hz1 _ _ _ _ (131071 + m) rfl rfl (by omega) (by omega) (by rw [hz2]; omega) (by unfold maxLen; omega) (by omega) ?_)
  intro w1 hown hgrow
  rw [made_zeros] at hown
  obtain ⟨N, hN⟩ : ∃ N, N = 131071 + m := ⟨_, rfl⟩
  rw [← hN] at hown HBB ⊢
  have hN1 : 131071 + m ≤ N := by omega
  have hN3 : N ≤ 131071 + m := by omega
  clear hN
  have hc0 : w1.cell? ⟨w.heap.size, 0, none⟩ = some (.int .u8 0) := by
    rw [hown.cellAt 0 (by omega), List.getElem?_map, List.getElem?_replicate, if_pos (by omega)]; rfl
  have hf0 := hown.frozenAt 0
  have hown2 := own_set hown 0 b
  have HO2 := Lib.hid (show (w1.setCell ⟨w.heap.size, 0, none⟩ (.int .u8 b)).ownsRow 0 5 1 (.slice (some ⟨w.heap.size, 0, none⟩) N N) N ((longText b N).map (Value.int .u8)) from hown2)
  have hM2 : Moved w (w1.setCell ⟨w.heap.size, 0, none⟩ (.int .u8 b)) [] := ((Moved.refl w []).grown hgrow (fun k hk => by cases hk)).setCell (.inr (by simp)) _
  have HM2 := Lib.hid hM2
  have hg1 : w.heap.size < w1.heap.size := World.block_lt_of_cell? w1 _ hc0
  clear hown hown2 hgrow hM2
  go_wp2_with fail
  have hsz : (w1.setCell ⟨w.heap.size, 0, none⟩ (.int .u8 b)).heap.size = w1.heap.size := by simp
  have hw0 := V.new (w1.setCell ⟨w.heap.size, 0, none⟩ (.int .u8 b))
  rw [hsz] at hw0
  obtain ⟨g, hg⟩ : ∃ g, g = w.heap.size := ⟨_, rfl⟩
  obtain ⟨q, hq⟩ : ∃ q, q = w1.heap.size := ⟨_, rfl⟩
  rw [← hg] at HO2 HM2 hsz hw0 hg1 ⊢
  rw [← hq] at hsz hw0 hg1 ⊢
  have HGW := Lib.hid (Nat.le_of_eq hg.symm)
  obtain ⟨W2, hW2⟩ : ∃ W2, W2 = w1.setCell ⟨g, 0, none⟩ (.int .u8 b) := ⟨_, rfl⟩
  rw [← hW2] at HO2 HM2 hsz hw0 ⊢
  have HSZ := Lib.hid hsz
  have hO3 := HO2.out.alloc (.cells #[.slice none 0 0, .int .i64 0, .pointer none] 39)
  have hM3 := HM2.out.alloc (.cells #[.slice none 0 0, .int .i64 0, .pointer none] 39)
  clear hg hq hW2 hsz hc0 hf0
  obtain ⟨W3, hW3⟩ : ∃ W3, W3 = W2.alloc (.cells #[.slice none 0 0, .int .i64 0, .pointer none] 39) := ⟨_, rfl⟩
  rw [← hW3] at hw0 hO3 hM3 ⊢
  have HO3 := Lib.hid hO3
  have HM3 := Lib.hid hM3
  have hln := longText_len b N
  clear hW3 hO3 hM3
  have hgb : ∀ k ∈ rowOf (.slice (some ⟨g, 0, none⟩) N N), k = g := fun k hk => by simpa [mem_rowOf, Value.ownBlock, eq_comm] using hk
  refine (V.text q [q] (.ok []) 0 (some ⟨g, 0, none⟩) N N (longText b N) W3 hw0 (NRow.of_own HO3.out) hln (fun h => by cases h) (fun k hk => by have := hgb k (rowX_rowOf hk); simp; omega) (by omega) (by omega)).mono ?_
  rintro e w4 ⟨rfl, f4, hR4, hS4⟩
  have hO4 := own_stays HO3.out (fun k hk => hS4.1.block k (own_lt HO3.out k hk) (fun hm => by have := hgb k hk; simp at hm; omega))
  have HO4 := Lib.hid hO4
  have HR4 := Lib.hid hR4
  have HS4 := Lib.hid hS4
  clear hO4 hR4 hS4 hw0
  go_wp2_with fail
  refine (V.uint q f4 _ _ 5 w4 HR4.out (by omega) (by omega)).mono ?_
  rintro e w5 ⟨rfl, f5, hR5, hS5⟩
  have HS5 := Lib.hid (HS4.out.trans hS5)
  have HR5 := Lib.hid hR5
  have hf5 : ∀ k ∈ f5, k ≠ g := fun k hk h => by
    rcases (HS4.out.trans hS5).2 k hk with h' | h'
    · simp at h'; omega
    · have := own_lt HO3.out g (by simp [mem_rowOf, Value.ownBlock]); omega
  have HF5 := Lib.hid hf5
  clear hR5 hS5 hf5
  go_wp2_with fail
  refine (V.bytes q f5 _ _ w5 HR5.out (by omega)).mono ?_
  rintro e w6 ⟨v, rfl, hO6, hS6⟩
  obtain ⟨Av, cv, rfl, hvn, -⟩ := own_shape hO6
  have HVN := Lib.hid hvn
  have HS6 := Lib.hid hS6
  have HM6 := Lib.hid ((HM3.out.trans HS5.out.1 (fun k hk => .inr (by simp at hk; have := HGW.out; omega))).trans hS6.1 (fun k hk => by cases hk))
  have HOT := Lib.hid (own_stays HO3.out (fun k hk => (HS5.out.1.trans hS6.1 (fun j hj => by cases hj)).block k (own_lt HO3.out k hk) (fun hm => by have := hgb k hk; simp at hm; omega)))
  clear hvn hS6
  by_cases hm1 : m ≤ 1
  · have hs : ((WSt.ok []).text (longText b N)).put (enc 5) = .ok (enc N ++ longText b N ++ enc 5) := by
      rw [WSt.text, hln, if_neg (by omega)]; rfl
    rw [hs] at hO6 ⊢
    have hO6 : w6.ownsRow 0 5 1 (.slice Av (enc N ++ longText b N ++ enc 5).length cv) (enc N ++ longText b N ++ enc 5).length ((enc N ++ longText b N ++ enc 5).map (Value.int .u8)) := hO6
    have hbt : ByteList (enc N ++ longText b N ++ enc 5) := ByteList.append (ByteList.append (enc_byte N) HBB.out) (enc_byte 5)
    have hlen6 : (enc N ++ longText b N ++ enc 5).length ≤ 131072 + 20 := by
      have h1 := enc_ten (v := N) (by omega)
      have h2 := enc_ten (v := 5) (by omega)
      simp only [List.length_append, hln]; omega
    have ht := ends_text (l := longText b N) (by omega)
    rw [hln] at ht
    obtain ⟨XS, hXS⟩ : ∃ XS, XS = enc N ++ longText b N ++ enc 5 := ⟨_, rfl⟩
    rw [← hXS] at hO6 hbt hlen6 ht ⊢
    have HO6 := Lib.hid hO6
    have HBT := Lib.hid hbt
    have HT := Lib.hid ht
    have HG6 := Lib.hid (own_lt HOT.out g (by simp [mem_rowOf, Value.ownBlock]))
    clear hO6 hbt ht hXS hs
    simp only [WSt.err, WSt.out]
    go_wp2_with fail
    refine (L.new Av XS.length cv XS w6 (NRow.of_own HO6.out) rfl HBT.out HVN.out (by omega)).mono ?_
    rintro e w7 ⟨p, fp, rfl, hR7, hS7⟩
    have HR7 := Lib.hid hR7
    have HS7 := Lib.hid hS7
    have HFP := Lib.hid (fun k hk => (hS7.2 k hk).elim (fun h => by cases h) id : ∀ k ∈ fp, w6.heap.size ≤ k)
    clear hR7 hS7
    go_wp2_with fail
    refine (L.text p fp _ w7 HR7.out).mono ?_
    rintro e w8 ⟨v8, f8, rfl, hO8, -, hR8, hS8⟩
    rw [HT.out] at hO8 hR8
    dsimp only at hO8 hR8
    rw [hln] at hO8
    obtain ⟨A8, c8, rfl, -⟩ := t_shape hO8
    have HO8 := Lib.hid hO8
    have HR8 := Lib.hid hR8
    have HM8 := Lib.hid ((HM6.out.trans HS7.out.1 (fun k hk => by cases hk)).trans hS8.1 (fun k hk => .inr (by have := HFP.out k hk; have := HM6.out.size; omega)))
    have HO8t := Lib.hid (own_stays HOT.out (fun k hk => (HS7.out.1.trans hS8.1 (fun j hj => .inr (HFP.out j hj))).block k (own_lt HOT.out k hk) (by simp)))
    have HF8 := Lib.hid (fun k hk => (hS8.2 k hk).elim (fun h => Nat.le_trans (Nat.le_trans HM6.out.size (HFP.out k h)) (Nat.le_refl _)) (fun h => Nat.le_trans (Nat.le_trans HM6.out.size HS7.out.1.size) h) : ∀ k ∈ f8, w.heap.size ≤ k)
    have HL8 := Lib.hid hln
    clear hO8 hR8 hS8 hln
    go_wp2_with (first
      | (go_at_call 27; refine (bytes_is _ _ _ _ _ _ (longText b N) (longText b N) _ HO8.out.nrow (NRow.of_own HO8t.out) HL8.out HL8.out HBB.out HBB.out true (by simp)).mono ?_; rintro e w9 ⟨rfl, rfl⟩))
    refine (L.uint p f8 _ w8 HR8.out).mono ?_
    rintro e w9 ⟨rfl, f9, hR9, hS9⟩
    rw [ends_five] at hR9 ⊢
    have HR9 := Lib.hid hR9
    have HS9 := Lib.hid hS9
    clear hR9 hS9
    dsimp only
    go_wp2_with fail
    refine (L.done p f9 _ w9 HR9.out).mono ?_
    rintro e w10 ⟨rfl, f10, -, hS10⟩
    have HB9 := Lib.hid (Below_step (HM8.out.below (Nat.le_refl _) (fun k hk => by cases hk)) (HS9.out.trans hS10) HM8.out.size HF8.out)
    clear hS10
    simp only [St.done]
    go_wp2_with (go_at_call 14; refine (W _).mono ?_; rintro e w11 ⟨rfl, hM11⟩; have HM11 := Lib.hid hM11; clear hM11)
    go_ret
    exact ⟨rfl, HB9.out.1.trans (HM11.out.below HB9.out.1.size (fun k hk => by cases hk))⟩
  · have hs : ((WSt.ok []).text (longText b N)).put (enc 5) = .bad 5 := by
      rw [WSt.text, hln, if_pos (by omega)]; rfl
    rw [hs] at hO6 ⊢
    clear hO6
    simp only [WSt.err, WSt.out]
    go_wp2_with (go_at_call 14; refine (W _).mono ?_; rintro e w8 ⟨rfl, hM8⟩; have HM8 := Lib.hid hM8; clear hM8)
    go_ret
    exact ⟨rfl, (HM6.out.trans HM8.out (fun k hk => by cases hk)).below (Nat.le_refl _) (fun k hk => by cases hk)⟩
end Pk
end Go.Proofs.Ytgifinilgieonaa
