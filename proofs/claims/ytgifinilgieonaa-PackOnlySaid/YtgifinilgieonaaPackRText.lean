/-
  CONTRACTS of (*pack.Reader).Text and of pack.NewReader.
-/
import Derived.Test.YtgifinilgieonaaPackRInt
namespace Go.Proofs.Ytgifinilgieonaa
namespace Pk
open Go.RowKit
theorem rtells_none {p : Nat} {fp fp' : List Nat} {st : St} {w w' : World} (h : RObj w' p fp' st) (hS : Step w w' fp fp') : Tells RObj p fp st [] w (.returned (.slice none 0 0)) w' :=
  ⟨_, fp', rfl, ⟨rfl, .inl ⟨rfl, rfl⟩⟩, by simp [rowOf, Value.ownBlock], h, hS⟩
/-- The text is a new row; then the Reader goes on. -/
theorem rtells_some {p n : Nat} {s : ByteArray} {w w1 : World} (hp : w1.heap[p]? = some (.cells #[.string s, .int .i64 0] 60 (0, 0))) (hs : s.size ≤ 70368744177664) (hn : n ≤ s.size) (hS : Step w w1 [p] [p]) {W2 : World} {v : Value}
    (hv : v = .slice (some ⟨w1.heap.size, 0, none⟩) (s.extract 0 n).size (grownCap w1 (s.extract 0 n).size 0 5))
    (hW : W2 = (w1.drew.alloc (.cells (bytesRow (s.extract 0 n) (grownCap w1 (s.extract 0 n).size 0 5)) 5 ((bytesRow (s.extract 0 n) (grownCap w1 (s.extract 0 n).size 0 5)).size, (bytesRow (s.extract 0 n) (grownCap w1 (s.extract 0 n).size 0 5)).size + 1)))) :
    Tells RObj p [p] (.ok ((nums s).drop n)) ((nums s).take n) w (.returned v) (W2.setCell ⟨p, 0, none⟩ (.string (s.extract n s.size))) := by
  have hT := TRow.of_string w1 (s.extract 0 n) (by unfold maxLen; simp; omega)
  rw [← hv, ← hW, show (s.extract 0 n).data.toList.map (fun b => (b.toNat : Int)) = (nums s).take n from nums_to s n] at hT
  have hlp := lt_of_block hp
  have hM : Moved w1 W2 [] := by rw [hW]; exact ((Moved.refl w1 []).drew).alloc _
  have hp2 : W2.heap[p]? = some (.cells #[.string s, .int .i64 0] 60 (0, 0)) := (hM.block p hlp (by simp)).trans hp
  have hro : ∀ k ∈ rowOf v, k = w1.heap.size := fun k hk => by subst hv; simpa [mem_rowOf, Value.ownBlock, eq_comm] using hk
  have R := r_next (n := n) hp2 hs
  have hl : ((nums s).take n).length = (s.extract 0 n).size := by rw [← nums_to, nums_len]
  refine ⟨v, [p], rfl, ?_, fun k hk => ?_, R.1, ?_⟩
  · rw [hl]
    exact t_stays hT (fun k hk => Below.heap_setCell _ _ _ k (by have := hro k hk; show k ≠ p; omega))
  · have := hro k hk
    have := hS.1.size
    exact ⟨by omega, by simp; omega⟩
  · exact (hS.trans (⟨hM.mono (fun _ h => by cases h), fun _ h => .inl h⟩ : Step w1 W2 [p] [p])).trans R.2
set_option maxRecDepth 100000 in
set_option maxHeartbeats 2000000 in
theorem rtext_any (p : Nat) (fp : List Nat) (st : St) (w : World) (hR : RObj w p fp st) :
    Calls Try.prog 23 #[.pointer (some ⟨p, 0, none⟩)] w (Tells RObj p fp st.text.2 st.text.1 w) := by
  obtain rfl : fp = [p] := hR.1
  have HR := Lib.hid hR
  clear hR
  go_enter Try.func23, Try.ntmps23
  go_wp2_with fail
  refine (ruint_any p _ st _ HR.out).mono ?_
  rintro e1 w1 ⟨rfl, fp1, hR1, hS1⟩
  have HS1 := Lib.hid hS1
  clear hS1
  rcases uint_split st with ⟨e, hu⟩ | ⟨n, bs, hu⟩
  · have HT := Lib.hid (text_bad hu)
    rw [hu] at hR1 ⊢
    have HR1 := Lib.hid hR1
    obtain ⟨rfl, s, e1, hp, hs, he1, he2, rfl⟩ := hR1
    have c0 := cell_at hp 0 (v := .string ByteArray.empty) rfl
    have c1 := cell_at hp 1 (v := .int .i64 e1) rfl
    have he3 : (e1 != 0) = true := by rw [he1]; simpa using he2
    clear hu hp he1 he2
    go_wp2
    go_ret
    rw [HT.out]
    exact rtells_none HR1.out HS1.out
  · have HU := Lib.hid hu
    have hn64 : n < 18446744073709551616 := by have := robj_bound HR.out; rw [hu] at this; exact this
    have HN64 := Lib.hid hn64
    rw [hu] at hR1 ⊢
    obtain ⟨rfl, s, e1, hp, hs, rfl, rfl⟩ := hR1
    have c0 := cell_at hp 0 (v := .string s) rfl
    have c1 := cell_at hp 1 (v := .int .i64 0) rfl
    have HP := Lib.hid hp
    clear hu hp hn64
    by_cases h5 : 131072 < n
    · have HT := Lib.hid (text_long HU.out h5)
      go_wp2_with (go_at_call 36; refine (rfail_new p s 5 _ HP.out (by omega)).mono ?_; rintro e2 w2 ⟨rfl, hR2, hS2⟩; have HR2 := Lib.hid hR2; have HS2 := Lib.hid (HS1.out.trans hS2); clear hS2; obtain ⟨-, s2, e2, hp2, -, rfl, -, rfl⟩ := hR2; have d1 := cell_at hp2 1 (v := .int .i64 5) rfl; clear hp2)
      go_ret
      rw [HT.out]
      exact rtells_none HR2.out HS2.out
    · by_cases h4 : s.size < n
      · have HT := Lib.hid (text_short HU.out h5 (by rw [nums_len]; exact h4))
        go_wp2_with (go_at_call 36; refine (rfail_new p s 4 _ HP.out (by omega)).mono ?_; rintro e2 w2 ⟨rfl, hR2, hS2⟩; have HR2 := Lib.hid hR2; have HS2 := Lib.hid (HS1.out.trans hS2); clear hS2; obtain ⟨-, s2, e2, hp2, -, rfl, -, rfl⟩ := hR2; have d1 := cell_at hp2 1 (v := .int .i64 4) rfl; clear hp2)
        go_ret
        rw [HT.out]
        exact rtells_none HR2.out HS2.out
      · have HT := Lib.hid (text_fine HU.out h5 (by rw [nums_len]; exact h4))
        have hcv := run_bytes_of_string (P := Try.prog) w1 9 22 5 (s.extract 0 n) Try.underlying9 Try.underlying22 Try.underlying5
        obtain ⟨W2, hW2⟩ : ∃ W2, W2 = (w1.drew.alloc (.cells (bytesRow (s.extract 0 n) (grownCap w1 (s.extract 0 n).size 0 5)) 5 ((bytesRow (s.extract 0 n) (grownCap w1 (s.extract 0 n).size 0 5)).size, (bytesRow (s.extract 0 n) (grownCap w1 (s.extract 0 n).size 0 5)).size + 1))) := ⟨_, rfl⟩
        obtain ⟨v2, hv2⟩ : ∃ v2, v2 = Value.slice (some ⟨w1.heap.size, 0, none⟩) (s.extract 0 n).size (grownCap w1 (s.extract 0 n).size 0 5) := ⟨_, rfl⟩
        rw [← hW2, ← hv2] at hcv
        have hM : Moved w1 W2 [] := by rw [hW2]; exact ((Moved.refl w1 []).drew).alloc _
        have hp2 : W2.heap[p]? = some (.cells #[.string s, .int .i64 0] 60 (0, 0)) := (hM.block p (lt_of_block HP.out) (by simp)).trans HP.out
        have d0 := cell_at hp2 0 (v := .string s) rfl
        have g0 := free_at hp2 0
        have HW2 := Lib.hid hW2
        have HV2 := Lib.hid hv2
        clear hW2 hv2 hM hp2
        go_wp2
        go_ret
        rw [HT.out]
        exact rtells_some HP.out hs (by omega) HS1.out HV2.out HW2.out
set_option maxRecDepth 100000 in
theorem rnew_any (A : Option Addr) (n c : Nat) (xs : List Int) (w : World) (hA : NRow .u8 w A xs) (hn : xs.length = n) (hb : ByteList xs) (hlen : n ≤ 70368744177664) :
    Calls Try.prog 9 #[.slice A n c] w fun r w' => ∃ p fp, r = .returned (.pointer (some ⟨p, 0, none⟩)) ∧ RObj w' p fp (.ok xs) ∧ Step w w' [] fp := by
  have hcv := run_convert_nrow (P := Try.prog) w 22 9 5 Try.underlying22 Try.underlying5 Try.underlying9 A n c xs hA hn
  have HB := Lib.hid hb
  have HL : Hid ((strOfNums xs).size ≤ 70368744177664) := by show _ ≤ _; rw [← nums_len, nums_str hb, hn]; exact hlen
  obtain ⟨s, hs⟩ : ∃ s, s = strOfNums xs := ⟨_, rfl⟩
  rw [← hs] at hcv HL
  have HS := Lib.hid hs
  clear hA hn hb hs
  go_enter Try.func9, Try.ntmps9
  go_wp2
  go_ret
  exact ⟨w.heap.size, [w.heap.size], rfl, ⟨rfl, s, 0, heap_alloc_new w _, HL.out, rfl, by rw [HS.out]; exact nums_str HB.out⟩, (Moved.refl _ _).alloc _, fun k hk => .inr (by simp at hk; omega)⟩
end Pk
end Go.Proofs.Ytgifinilgieonaa
