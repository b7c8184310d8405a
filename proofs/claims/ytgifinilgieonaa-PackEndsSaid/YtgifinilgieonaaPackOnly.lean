/-
  THE WALK of the statement PackOnly, from what it asks of the program's Reader and Writer.
-/
import Derived.Test.YtgifinilgieonaaPackWLaws
namespace Go.Proofs.Ytgifinilgieonaa
namespace Pk
open Go.RowKit Am

/-- As long as nothing is wrong: what was read is written, and what is left follows. -/
def Inv (xs : List Int) (st : St) (s : WSt) : Prop := ∀ bs, st = .ok bs → ∃ ys, s = .ok ys ∧ xs = ys ++ bs
def BytesOf (st : St) : Prop := ∀ bs, st = .ok bs → ∀ x ∈ bs, 0 ≤ x ∧ x ≤ 255
theorem uint_from {st : St} {v : Nat} {r : List Int} (h : st.uint = (v, .ok r)) : ∃ bs, st = .ok bs := by
  cases st with
  | bad e => simp [St.uint] at h
  | ok bs => exact ⟨bs, rfl⟩
theorem inv_uint {xs : List Int} {st : St} {s : WSt} {v : Nat} {r : List Int} (h : Inv xs st s) (hb : BytesOf st) (hu : st.uint = (v, .ok r)) : Inv xs (.ok r) (s.put (enc v)) := by
  obtain ⟨bs, rfl⟩ := uint_from hu
  obtain ⟨ys, rfl, hx⟩ := h bs rfl
  intro bs' e
  cases e
  refine ⟨ys ++ enc v, rfl, ?_⟩
  rw [hx, uint_canon (hb bs rfl) hu]; simp
theorem inv_bad {xs : List Int} {e : Int} {s : WSt} : Inv xs (.bad e) s := fun bs h => by cases h
theorem inv_kind0 {xs : List Int} {st : St} {s : WSt} (h : Inv xs st s) (hb : BytesOf st) : Inv xs st.uint.2 (s.put (enc st.uint.1)) := by
  rcases uint_split st with ⟨e, hu⟩ | ⟨v, r, hu⟩
  · rw [hu]; exact inv_bad
  · rw [hu]; exact inv_uint h hb hu
theorem inv_kind1 {xs : List Int} {st : St} {s : WSt} (h : Inv xs st s) (hb : BytesOf st) : Inv xs st.int.2 (s.put (enc (zig st.int.1))) := by
  show Inv xs st.uint.2 (s.put (enc (zig (unzig st.uint.1))))
  rw [zig_unzig]; exact inv_kind0 h hb
theorem inv_kind2 {xs : List Int} {st : St} {s : WSt} (h : Inv xs st s) (hb : BytesOf st) : Inv xs st.mark.2 (s.put (enc (if st.mark.1 then 1 else 0))) := by
  unfold St.mark
  by_cases h1 : 1 < st.uint.1
  · rw [if_pos h1]; exact inv_bad
  · rw [if_neg h1]
    have h2 := inv_kind0 h hb
    have h3 : (if decide (st.uint.1 = 1) = true then 1 else 0) = st.uint.1 := by
      by_cases h4 : st.uint.1 = 1
      · rw [if_pos (by simpa using h4), h4]
      · rw [if_neg (by simpa using h4)]; omega
    rw [h3]; exact h2
theorem inv_kind3 {xs : List Int} {st : St} {s : WSt} (h : Inv xs st s) (hb : BytesOf st) : Inv xs st.text.2 (s.text st.text.1) := by
  rcases uint_split st with ⟨e, hu⟩ | ⟨n, bs, hu⟩
  · rw [text_bad hu]; exact inv_bad
  · by_cases h5 : 131072 < n
    · rw [text_long hu h5]; exact inv_bad
    · by_cases h4 : bs.length < n
      · rw [text_short hu h5 h4]; exact inv_bad
      · rw [text_fine hu h5 h4]
        have h2 := inv_uint h hb hu
        obtain ⟨ys, hs, hx⟩ := h2 bs rfl
        obtain ⟨cs, rfl⟩ := uint_from hu
        obtain ⟨zs, rfl, _⟩ := h cs rfl
        intro bs' e
        cases e
        have hl : (bs.take n).length = n := by simp; omega
        simp only [WSt.put, WSt.ok.injEq] at hs
        refine ⟨zs ++ (enc n ++ bs.take n), by simp only [WSt.text, hl, WSt.put]; rw [if_neg h5], ?_⟩
        rw [hx, ← hs]
        simp
theorem inv_kind4 {xs : List Int} {st : St} {s : WSt} (h : Inv xs st s) (hb : BytesOf st) (hb2 : BytesOf st.uint.2) : Inv xs st.amount.2 (s.put (enc st.amount.1.1 ++ enc st.amount.1.2)) := by
  rcases uint_split st.uint.2 with ⟨e, hu⟩ | ⟨k, bs, hu⟩
  · rw [amount_bad hu]; exact inv_bad
  · by_cases h5 : 1048576 < st.uint.1 ∨ 1048576 < k
    · rw [amount_big rfl hu h5]; exact inv_bad
    · rw [amount_fine rfl hu h5]
      have h2 := inv_uint (inv_kind0 h hb) hb2 hu
      have h3 : (s.put (enc st.uint.1)).put (enc k) = s.put (enc st.uint.1 ++ enc k) := by cases s <;> simp [WSt.put]
      rw [← h3]; exact h2

/-- How it stands between two rounds of the loop: b is the heap's size at the beginning. -/
structure OnlyRel (R : World → Nat → List Nat → St → Prop) (Wr : World → Nat → List Nat → WSt → Nat → Prop) (w wr : World) (p : Nat) (fp : List Nat) (st : St) (p2 : Nat) (fp2 : List Nat) (s : WSt) (m : Nat) (xs : List Int) (k : Nat) : Prop where
  duo : Duo R Wr wr p fp st p2 fp2 s m
  inv : Inv xs st s
  room : m ≤ 131082 * k
  below : Below w.heap.size w wr
  mine : ∀ b ∈ fp ++ fp2, w.heap.size ≤ b
theorem OnlyRel.bytes {R : World → Nat → List Nat → St → Prop} (L : RLaws R) {Wr : World → Nat → List Nat → WSt → Nat → Prop} {w wr : World} {p : Nat} {fp : List Nat} {st : St} {p2 : Nat} {fp2 : List Nat} {s : WSt} {m : Nat} {xs : List Int} {k : Nat}
    (h : OnlyRel R Wr w wr p fp st p2 fp2 s m xs k) : BytesOf st := fun _ e => L.bytes (e ▸ h.duo.rd)
theorem OnlyRel.go {R : World → Nat → List Nat → St → Prop} (L : RLaws R) {Wr : World → Nat → List Nat → WSt → Nat → Prop} (V : WLaws Wr) {w wr w1 w2 : World} {p : Nat} {fp f1 : List Nat} {st st1 : St} {p2 : Nat} {fp2 f2 : List Nat} {s s1 : WSt} {m m1 : Nat} {xs : List Int} {k : Nat}
    (h : OnlyRel R Wr w wr p fp st p2 fp2 s m xs k) (h1 : R w1 p f1 st1) (hS1 : Step wr w1 fp f1) (h2 : Wr w2 p2 f2 s1 m1) (hS2 : Step w1 w2 fp2 f2) (hi : Inv xs st1 s1) (hm : m1 ≤ m + 131082) :
    OnlyRel R Wr w w2 p f1 st1 p2 f2 s1 m1 xs (k + 1) := by
  have D1 := h.duo.read V h1 hS1
  have D2 := D1.1.write L h2 hS2
  have B1 := Below_step h.below D1.2 h.below.size h.mine
  have B2 := Below_step B1.1 D2.2 B1.1.size B1.2
  exact ⟨D2.1, hi, by have := h.room; omega, B2.1, B2.2⟩
end Pk
end Go.Proofs.Ytgifinilgieonaa
