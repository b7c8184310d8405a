/-
  5 texts in one: TextPlain, Float, PackRLaws, PackRObj, PackRInt.
-/
import Derived.Test.YtpghaffjfinpeaaGreatKWireOnly01
import Derived.Laws.IdiomStrings
import Derived.Laws.FloatArith
import Derived.Test.YtpghaffjfinpeaaGreatKWireOnly02
import Derived.Deep.QuietTactic
import Derived.BigQuiet
import Derived.Laws.DeepNot64

/-
  A row of bytes of the call's own, whatever mark it bears behind its bytes (what '[]byte(s)' makes).
-/
namespace Go.Proofs.YtpghaffjfinpeaaGreat
open Go.RowKit
/-- v is n bytes xs, in a block of the call's own (or nil); none of the bytes is frozen. -/
def TRow (w : World) (v : Value) (n : Nat) (xs : List Int) : Prop :=
  xs.length = n ∧ ((v = .slice none 0 0 ∧ n = 0) ∨
    ∃ g cap cur fz, v = .slice (some ⟨g, 0, none⟩) n cap ∧ w.heap[g]? = some (.cells cur 5 fz) ∧ (∀ j, j < n → (decide (fz.1 ≤ j) && decide (j < fz.2)) = false) ∧ n ≤ cap ∧ cap ≤ maxLen ∧ cur.size = cap ∧ cur.toList.take n = xs.map (Value.int .u8))
theorem TRow.of_own {w : World} {v : Value} {n : Nat} {xs : List Int} (h : w.ownsRow 0 5 1 v n (xs.map (Value.int .u8))) : TRow w v n xs := by
  refine ⟨own_len h, ?_⟩
  rcases h.2 with h2 | ⟨g, cap, cur, hv, _, hh, hc, hm, hs, ht⟩
  · exact .inl h2
  · exact .inr ⟨g, cap, cur, (0, 0), hv, hh, fun j _ => by simp, hc, hm, by simpa using hs, by simpa using ht⟩
theorem t_shape {w : World} {v : Value} {n : Nat} {xs : List Int} (h : TRow w v n xs) : ∃ A c, v = .slice A n c ∧ (A = none → c = 0) ∧ n ≤ c ∧ c ≤ 9223372036854775807 := by
  rcases h.2 with ⟨rfl, rfl⟩ | ⟨g, cap, cur, fz, rfl, _, _, hc, hm, _⟩
  · exact ⟨none, 0, rfl, fun _ => rfl, by omega, by omega⟩
  · exact ⟨_, _, rfl, (fun hA => by cases hA), hc, by unfold maxLen at hm; omega⟩
theorem t_stays {w w' : World} {v : Value} {n : Nat} {xs : List Int} (h : TRow w v n xs) (hk : ∀ k ∈ rowOf v, w'.heap[k]? = w.heap[k]?) : TRow w' v n xs := by
  refine ⟨h.1, ?_⟩
  rcases h.2 with h2 | ⟨g, cap, cur, fz, hv, hh, r⟩
  · exact .inl h2
  · exact .inr ⟨g, cap, cur, fz, hv, by rw [hk g (by subst hv; simp [mem_rowOf, Value.ownBlock])]; exact hh, r⟩
theorem t_lt {w : World} {v : Value} {n : Nat} {xs : List Int} (h : TRow w v n xs) : ∀ k ∈ rowOf v, k < w.heap.size := by
  intro k hk
  rcases h.2 with ⟨rfl, _⟩ | ⟨g, cap, cur, fz, rfl, hh, _⟩
  · simp [rowOf, Value.ownBlock] at hk
  · have : g = k := by simpa [mem_rowOf, Value.ownBlock] using hk
    subst this
    exact (Array.getElem?_eq_some_iff.1 hh).1
theorem TRow.nrow {w : World} {A : Option Addr} {n c : Nat} {xs : List Int} (h : TRow w (.slice A n c) n xs) : NRow .u8 w A xs := by
  intro i x hx
  rcases h.2 with ⟨hv, hn⟩ | ⟨g, cap, cur, fz, hv, hh, _, _, _, _, ht⟩
  · have := h.1
    subst hn
    have : xs = [] := List.length_eq_zero_iff.1 this
    subst this
    simp at hx
  · have hA : A = some ⟨g, 0, none⟩ := by injection hv
    refine ⟨g, 0, hA, ?_⟩
    have hi : (xs.map (Value.int .u8))[i]? = some (.int .u8 x) := by rw [List.getElem?_map, hx]; rfl
    rw [← ht, List.getElem?_take] at hi
    split at hi
    · rw [Nat.zero_add, cell_of_row w g i cur _ fz hh]; simpa using hi
    · cases hi
/-- What '[]byte(s)' makes is such a row. -/
theorem TRow.of_string (w : World) (s : ByteArray) (hs : s.size ≤ maxLen) : TRow (w.drew.alloc (.cells (bytesRow s (grownCap w s.size 0 5)) 5 ((bytesRow s (grownCap w s.size 0 5)).size, (bytesRow s (grownCap w s.size 0 5)).size + 1)))
    (.slice (some ⟨w.heap.size, 0, none⟩) s.size (grownCap w s.size 0 5)) s.size (s.data.toList.map fun b => (b.toNat : Int)) := by
  have hge := grownCap_ge w s.size 0 5
  have hle := grownCap_le_maxLen w s.size 0 5 hs
  have hsz : (bytesRow s (grownCap w s.size 0 5)).size = grownCap w s.size 0 5 := by
    have h0 : s.data.size = s.size := rfl
    simp [bytesRow]; omega
  refine ⟨by simp, .inr ⟨w.heap.size, _, _, _, rfl, heap_alloc_new w.drew _, ?_, hge, hle, hsz, ?_⟩⟩
  · intro j hj
    rw [hsz]
    simp only [Bool.and_eq_false_iff, decide_eq_false_iff_not]
    omega
  · have h0 : s.data.size = s.size := rfl
    simp [bytesRow, h0]

theorem t_cell {w : World} {g n c k : Nat} {ys : List Int} {y : Int} (h : TRow w (.slice (some ⟨g, 0, none⟩) n c) n ys) (hy : ys[k]? = some y) : w.cell? ⟨g, k, none⟩ = some (.int .u8 y) := by
  obtain ⟨b, off, e, hc⟩ := h.nrow k y hy
  injection e with e
  injection e with e1 e2
  subst e1 e2
  simpa using hc
theorem t_free {w : World} {g n c k : Nat} {ys : List Int} (h : TRow w (.slice (some ⟨g, 0, none⟩) n c) n ys) (hk : k < n) : w.frozen? ⟨g, k, none⟩ = false := by
  rcases h.2 with ⟨hv, _⟩ | ⟨g', cap, cur, fz, hv, hh, hz, _⟩
  · cases hv
  · injection hv with hA
    injection hA with hA
    injection hA with hA
    subst hA
    simp only [World.frozen?, hh]
    exact hz k hk
theorem t_set {w : World} {g n c k : Nat} {ys : List Int} (h : TRow w (.slice (some ⟨g, 0, none⟩) n c) n ys) (x : Int) : TRow (w.setCell ⟨g, k, none⟩ (.int .u8 x)) (.slice (some ⟨g, 0, none⟩) n c) n (ys.set k x) := by
  refine ⟨by simpa using h.1, ?_⟩
  rcases h.2 with ⟨hv, _⟩ | ⟨g', cap, cur, fz, hv, hh, hz, hc, hm, hs, ht⟩
  · cases hv
  · injection hv with hA h2 h3
    injection hA with hA
    injection hA with hA
    subst hA h3
    refine .inr ⟨g, c, cur.setIfInBounds k (.int .u8 x), fz, rfl, by simp [World.setCell, Array.getElem?_modify, hh], hz, hc, hm, by simpa using hs, ?_⟩
    rw [Array.toList_setIfInBounds, List.map_set, ← ht, List.take_set]
end Go.Proofs.YtpghaffjfinpeaaGreat

/-
  Whole numbers as 64-bit floats: what their bits stand for.
-/
namespace Go.Proofs.YtpghaffjfinpeaaGreat
namespace Fl
open Ieee

/-- The bits W stand for the whole number n. -/
def Std (W n : Nat) : Prop := ∃ m u s : Nat, s = 1074 ∧ double.read W = .number false m (-(s : Int) + (u : Int)) ∧ m * 2 ^ u = n * 2 ^ s

theorem zmul (a b : Nat) : 0 * a = 0 * b := by rw [Nat.zero_mul, Nat.zero_mul]
theorem min_le (M N : Nat) (h9 : M ≤ 1074 * 2 ^ 52) (hup : N < 2 ^ 53) : min (M + N) (2047 * 2 ^ 52) = M + N := by omega
theorem nearest_nat {n : Nat} (h0 : 0 < n) (hn : n < 2 ^ 53) : double.nearest false n 0 = (n.log2 + 1022) * 2 ^ 52 + n * 2 ^ (52 - n.log2) := by
  have hL : n.log2 ≤ 52 := by
    have : n.log2 < 53 := (Nat.log2_lt (by omega)).2 hn
    omega
  have hlast : max ((0 : Int) + n.log2 - double.fractionBits) double.leastPlace = (n.log2 : Int) - 52 := by
    show max ((0 : Int) + n.log2 - (52 : Nat)) (2 - 2 ^ (11 - 1) - (52 : Nat)) = _
    omega
  have hup : n * 2 ^ (52 - n.log2) < 2 ^ 53 := by
    have h1 : n < 2 ^ (n.log2 + 1) := Nat.lt_log2_self
    have h2 : n * 2 ^ (52 - n.log2) < 2 ^ (n.log2 + 1) * 2 ^ (52 - n.log2) := Nat.mul_lt_mul_of_pos_right h1 (Nat.pow_pos (by omega))
    rw [← Nat.pow_add, show n.log2 + 1 + (52 - n.log2) = 53 by omega] at h2
    exact h2
  unfold Format.nearest
  rw [if_neg (by omega)]
  simp only [hlast]
  rw [show ((0 : Int) - ((n.log2 : Int) - 52)).toNat = 52 - n.log2 by omega, show (((n.log2 : Int) - 52) - 0).toNat = 0 by omega]
  rw [show (((n.log2 : Int) - 52) - double.leastPlace).toNat = n.log2 + 1022 by show (((n.log2 : Int) - 52) - (2 - 2 ^ (11 - 1) - (52 : Nat))).toNat = _; omega]
  have hc : ∀ N : Nat, Toward.even.cut false N 0 = N := by
    intro N
    simp [Toward.cut, Nat.mod_one]
  rw [hc, Nat.shiftLeft_eq]
  have e1 : double.binade = 2 ^ 52 := rfl
  have e2 : double.infRung = 2047 * 2 ^ 52 := rfl
  have e3 : ∀ r, double.word false r = r := fun _ => rfl
  rw [e1, e2, e3]
  exact min_le _ _ (Nat.mul_le_mul_right _ (by omega)) hup
theorem read_word {L N : Nat} (hL : L ≤ 52) (h1 : 2 ^ 52 ≤ N) (h2 : N < 2 ^ 53) : double.read ((L + 1022) * 2 ^ 52 + N) = .number false N (-1074 + ((L + 1022 : Nat) : Int)) := by
  have hW : (L + 1022) * 2 ^ 52 + N < 2 ^ 63 := by
    have : (L + 1022) * 2 ^ 52 ≤ 1074 * 2 ^ 52 := Nat.mul_le_mul_right _ (by omega)
    omega
  unfold Format.read
  simp only [show double.signWeight = 2 ^ 63 by rfl, show double.binade = 2 ^ 52 by rfl, show double.infRung = 2047 * 2 ^ 52 by rfl, show double.leastPlace = -1074 by decide]
  rw [Nat.mod_eq_of_lt hW, Nat.div_eq_of_lt hW]
  have h3 : ¬ ((L + 1022) * 2 ^ 52 + N < 2 ^ 52) := by omega
  have h4 : (L + 1022) * 2 ^ 52 + N < 2047 * 2 ^ 52 := by
    have : (L + 1022) * 2 ^ 52 ≤ 1074 * 2 ^ 52 := Nat.mul_le_mul_right _ (by omega)
    omega
  rw [if_neg h3, if_pos h4]
  have h5 : ((L + 1022) * 2 ^ 52 + N) / 2 ^ 52 = L + 1023 := by
    rw [Nat.add_comm, Nat.add_mul_div_right _ _ (by omega)]; omega
  have h6 : ((L + 1022) * 2 ^ 52 + N) % 2 ^ 52 = N - 2 ^ 52 := by
    rw [Nat.add_comm, Nat.add_mul_mod_self_right]; omega
  rw [h5, h6]
  simp only [Nat.zero_mod]
  rw [show 2 ^ 52 + (N - 2 ^ 52) = N by omega]
  rfl
theorem std_nat {n : Nat} (hn : n < 2 ^ 53) : Std (floatOfInt .f64 n) n := by
  have hb : floatOfInt .f64 n = double.nearest false n 0 := by
    show double.write (.number (decide ((n : Int) < 0)) (n : Int).natAbs 0) = _
    rw [show decide ((n : Int) < 0) = false by simp, Int.natAbs_natCast]
    rfl
  rw [hb]
  obtain ⟨s, hs⟩ : ∃ s : Nat, s = 1074 := ⟨_, rfl⟩
  by_cases h0 : n = 0
  · subst h0
    exact ⟨0, 0, s, hs, by rw [hs]; rfl, zmul _ _⟩
  · have hL : n.log2 ≤ 52 := by
      have : n.log2 < 53 := (Nat.log2_lt (by omega)).2 hn
      omega
    rw [nearest_nat (by omega) hn]
    have h3 : 2 ^ 52 ≤ n * 2 ^ (52 - n.log2) := by
      have h1 : 2 ^ n.log2 ≤ n := Nat.log2_self_le (by omega)
      have h2 : 2 ^ n.log2 * 2 ^ (52 - n.log2) ≤ n * 2 ^ (52 - n.log2) := Nat.mul_le_mul_right _ h1
      rwa [← Nat.pow_add, show n.log2 + (52 - n.log2) = 52 by omega] at h2
    have h4 : n * 2 ^ (52 - n.log2) < 2 ^ 53 := by
      have h1 : n < 2 ^ (n.log2 + 1) := Nat.lt_log2_self
      have h2 : n * 2 ^ (52 - n.log2) < 2 ^ (n.log2 + 1) * 2 ^ (52 - n.log2) := Nat.mul_lt_mul_of_pos_right h1 (Nat.pow_pos (by omega))
      rwa [← Nat.pow_add, show n.log2 + 1 + (52 - n.log2) = 53 by omega] at h2
    have h5 := read_word hL h3 h4
    refine ⟨n * 2 ^ (52 - n.log2), n.log2 + 1022, s, hs, by rw [hs]; exact h5, ?_⟩
    rw [Nat.mul_assoc, ← Nat.pow_add, show 52 - n.log2 + (n.log2 + 1022) = s by omega]
theorem compare_scale (a b s : Nat) : compare (a * 2 ^ s) (b * 2 ^ s) = compare a b := by
  have hp : 0 < 2 ^ s := Nat.pow_pos (by omega)
  rcases Nat.lt_trichotomy a b with h | h | h
  · rw [Nat.compare_eq_lt.2 h, Nat.compare_eq_lt.2 (Nat.mul_lt_mul_of_pos_right h hp)]
  · subst h; simp
  · rw [Nat.compare_eq_gt.2 h, Nat.compare_eq_gt.2 (Nat.mul_lt_mul_of_pos_right h hp)]
theorem compare_int (a b : Nat) : compare (a : Int) (b : Int) = compare a b := by
  rcases Nat.lt_trichotomy a b with h | h | h
  · rw [Nat.compare_eq_lt.2 h, Int.compare_eq_lt.2 (by omega)]
  · subst h; simp
  · rw [Nat.compare_eq_gt.2 h, Int.compare_eq_gt.2 (by omega)]
theorem order_std {W V a b : Nat} (hW : Std W a) (hV : Std V b) : double.order W V = some (compare a b) := by
  obtain ⟨m, u, t, ht, hr, hm⟩ := hW
  obtain ⟨n, v, t', ht', hs, hn⟩ := hV
  obtain rfl : t = t' := by omega
  unfold Format.order
  rw [hr, hs]
  have hsg : ∀ (x up : Nat), signed false x up = ((x * 2 ^ up : Nat) : Int) := by intro x up; simp [signed, Nat.shiftLeft_eq]
  simp only [Datum.order, hsg, compare_int]
  congr 1
  by_cases h : u ≤ v
  · rw [show (-(t : Int) + (u : Int) - min (-(t : Int) + (u : Int)) (-(t : Int) + (v : Int))).toNat = 0 by omega, show (-(t : Int) + (v : Int) - min (-(t : Int) + (u : Int)) (-(t : Int) + (v : Int))).toNat = v - u by omega]
    rw [← compare_scale (m * 2 ^ 0) (n * 2 ^ (v - u)) u, ← compare_scale a b t, ← hm, ← hn, Nat.mul_assoc n, ← Nat.pow_add, show v - u + u = v by omega]
    simp
  · rw [show (-(t : Int) + (u : Int) - min (-(t : Int) + (u : Int)) (-(t : Int) + (v : Int))).toNat = u - v by omega, show (-(t : Int) + (v : Int) - min (-(t : Int) + (u : Int)) (-(t : Int) + (v : Int))).toNat = 0 by omega]
    rw [← compare_scale (m * 2 ^ (u - v)) (n * 2 ^ 0) v, ← compare_scale a b t, ← hm, ← hn, Nat.mul_assoc m, ← Nat.pow_add, show u - v + v = u by omega]
    simp
theorem eq_std {W V a b : Nat} (hW : Std W a) (hV : Std V b) : Op.floatEq .f64 W V = decide (a = b) := by
  show (double.order W V == some .eq) = _
  rw [order_std hW hV]
  rcases Nat.lt_trichotomy a b with h | h | h
  · rw [Nat.compare_eq_lt.2 h, decide_eq_false (by omega)]; rfl
  · subst h; simp
  · rw [Nat.compare_eq_gt.2 h, decide_eq_false (by omega)]; rfl
end Fl
end Go.Proofs.YtpghaffjfinpeaaGreat

/-
  What the statements' walks ask of the program's Reader. R w p fp st: at block p stands a Reader in the state st; fp are its blocks.
-/
namespace Go.Proofs.YtpghaffjfinpeaaGreat
namespace Pk
open Go.RowKit Am
/-- The Reader at p answers r0 and is then in the state st. -/
def Goes (R : World → Nat → List Nat → St → Prop) (p : Nat) (fp : List Nat) (st : St) (r0 : Value) (w : World) (r : Ending) (w' : World) : Prop :=
  r = .returned r0 ∧ ∃ fp', R w' p fp' st ∧ Step w w' fp fp'
/-- The Reader at p answers new bytes and is then in the state st. -/
def Tells (R : World → Nat → List Nat → St → Prop) (p : Nat) (fp : List Nat) (st : St) (out : List Int) (w : World) (r : Ending) (w' : World) : Prop :=
  ∃ v fp', r = .returned v ∧ TRow w' v out.length out ∧ (∀ k ∈ rowOf v, w.heap.size ≤ k ∧ k ∉ fp') ∧ R w' p fp' st ∧ Step w w' fp fp'

structure RLaws (R : World → Nat → List Nat → St → Prop) : Prop where
  stays : ∀ {w w' : World} {p : Nat} {fp : List Nat} {st : St}, R w p fp st → (∀ k ∈ fp, w'.heap[k]? = w.heap[k]?) → R w' p fp st
  lt : ∀ {w : World} {p : Nat} {fp : List Nat} {st : St}, R w p fp st → ∀ k ∈ fp, k < w.heap.size
  bytes : ∀ {w : World} {p : Nat} {fp : List Nat} {bs : List Int}, R w p fp (.ok bs) → ByteList bs
  len : ∀ {w : World} {p : Nat} {fp : List Nat} {bs : List Int}, R w p fp (.ok bs) → bs.length ≤ 70368744177664
  fine : ∀ {w : World} {p : Nat} {fp : List Nat} {e : Int}, R w p fp (.bad e) → e ≠ 0
  new : ∀ (A : Option Addr) (n c : Nat) (xs : List Int) (w : World), NRow .u8 w A xs → xs.length = n → ByteList xs → (A = none → c = 0) → n ≤ 70368744177664 →
    Calls Tryz.prog 31 #[.slice A n c] w fun r w' => ∃ p fp, r = .returned (.pointer (some ⟨p, 0, none⟩)) ∧ R w' p fp (.ok xs) ∧ Step w w' [] fp
  uint : ∀ (p : Nat) (fp : List Nat) (st : St) (w : World), R w p fp st → Calls Tryz.prog 53 #[.pointer (some ⟨p, 0, none⟩)] w (Goes R p fp st.uint.2 (.int .u64 (st.uint.1 : Nat)) w)
  int : ∀ (p : Nat) (fp : List Nat) (st : St) (w : World), R w p fp st → Calls Tryz.prog 33 #[.pointer (some ⟨p, 0, none⟩)] w (Goes R p fp st.int.2 (.int .i64 st.int.1) w)
  mark : ∀ (p : Nat) (fp : List Nat) (st : St) (w : World), R w p fp st → Calls Tryz.prog 35 #[.pointer (some ⟨p, 0, none⟩)] w (Goes R p fp st.mark.2 (.bool st.mark.1) w)
  text : ∀ (p : Nat) (fp : List Nat) (st : St) (w : World), R w p fp st → Calls Tryz.prog 55 #[.pointer (some ⟨p, 0, none⟩)] w (Tells R p fp st.text.2 st.text.1 w)
  amount : ∀ (p : Nat) (fp : List Nat) (st : St) (w : World), R w p fp st → Calls Tryz.prog 57 #[.pointer (some ⟨p, 0, none⟩)] w (Goes R p fp st.amount.2 (amt st.amount.1.1 st.amount.1.2) w)
  done : ∀ (p : Nat) (fp : List Nat) (st : St) (w : World), R w p fp st → Calls Tryz.prog 32 #[.pointer (some ⟨p, 0, none⟩)] w (Goes R p fp st (.int .i64 st.done) w)

end Pk
end Go.Proofs.YtpghaffjfinpeaaGreat

/-
  A pack.Reader in memory: the text that is still to be read, its error. (Its struct: a string, the error.)
-/
namespace Go.Proofs.YtpghaffjfinpeaaGreat
namespace Pk
open Go.RowKit

/-- At block p stands a Reader in the state st; fp is its block. -/
def RObj (w : World) (p : Nat) (fp : List Nat) (st : St) : Prop :=
  fp = [p] ∧ ∃ s e, w.heap[p]? = some (.cells #[.string s, .int .i64 e] 151 (0, 0)) ∧ s.size ≤ 70368744177664 ∧ (match st with | .ok bs => e = 0 ∧ nums s = bs | .bad e' => e = e' ∧ e' ≠ 0 ∧ s = ByteArray.empty)
theorem RObj.stays {w w' : World} {p : Nat} {fp : List Nat} {st : St} (h : RObj w p fp st) (hk : ∀ k ∈ fp, w'.heap[k]? = w.heap[k]?) : RObj w' p fp st := by
  obtain ⟨rfl, s, e, h1, h2, h3⟩ := h
  exact ⟨rfl, s, e, by rw [hk p (by simp)]; exact h1, h2, h3⟩
theorem RObj.lt {w : World} {p : Nat} {fp : List Nat} {st : St} (h : RObj w p fp st) : ∀ k ∈ fp, k < w.heap.size := by
  obtain ⟨rfl, s, e, h1, h2, h3⟩ := h
  intro k hk
  simp at hk
  subst hk
  exact lt_of_block h1
/-- A cell of the Reader is written. -/
theorem r_moved {w : World} {p : Nat} (o : Nat) (v : Value) : Step w (w.setCell ⟨p, o, none⟩ v) [p] [p] := ⟨Moved.setCell (Moved.refl _ _) (.inl (by simp)) _, fun _ h => .inl h⟩
theorem r_cells {w : World} {p : Nat} {s : Value} {e : Value} (hp : w.heap[p]? = some (.cells #[s, e] 151 (0, 0))) (s' e' : Value) :
    ((w.setCell ⟨p, 0, none⟩ s').setCell ⟨p, 1, none⟩ e').heap[p]? = some (.cells #[s', e'] 151 (0, 0)) := by
  rw [heap_setCell_same _ p 1 _ _ _ (heap_setCell_same w p 0 _ _ _ hp)]; rfl
theorem rfail_new (p : Nat) (s : ByteArray) (e : Int) (w : World) (hp : w.heap[p]? = some (.cells #[.string s, .int .i64 0] 151 (0, 0))) (he : e ≠ 0) :
    Calls Tryz.prog 77 #[.pointer (some ⟨p, 0, none⟩), .int .i64 e] w fun r w' => r = .returned (.tuple #[]) ∧ RObj w' p [p] (.bad e) ∧ Step w w' [p] [p] := by
  have c0 := cell_at hp 0 (v := .string s) rfl
  have c1 := cell_at hp 1 (v := .int .i64 0) rfl
  have f0 := free_at hp 0
  have f1 := free_at hp 1
  have HP := Lib.hid hp
  have HE := Lib.hid he
  clear hp he
  go_enter Tryz.func77, Tryz.ntmps77
  go_wp2
  go_end0
  exact ⟨rfl, ⟨rfl, _, e, r_cells HP.out _ _, by show (0 : Nat) ≤ _; omega, rfl, HE.out, rfl⟩, (r_moved 0 _).trans (r_moved 1 _)⟩
theorem rfail_old (p : Nat) (fp : List Nat) (e e' : Int) (w : World) (hR : RObj w p fp (.bad e')) :
    Calls Tryz.prog 77 #[.pointer (some ⟨p, 0, none⟩), .int .i64 e] w fun r w' => r = .returned (.tuple #[]) ∧ RObj w' p fp (.bad e') ∧ Step w w' fp fp := by
  have HR := Lib.hid hR
  obtain ⟨rfl, s, e1, hp, -, he1, he2, rfl⟩ := hR
  have c1 := cell_at hp 1 (v := .int .i64 e1) rfl
  have hd : (e1 == 0) = false := by simpa [he1] using he2
  clear hp he1 he2
  go_enter Tryz.func77, Tryz.ntmps77
  go_wp2
  go_end0
  exact ⟨rfl, HR.out, Step.refl _ _⟩
/-- The Reader goes on behind n bytes. -/
theorem r_next {w : World} {p : Nat} {s : ByteArray} {n : Nat} (hp : w.heap[p]? = some (.cells #[.string s, .int .i64 0] 151 (0, 0))) (hs : s.size ≤ 70368744177664) :
    RObj (w.setCell ⟨p, 0, none⟩ (.string (s.extract n s.size))) p [p] (.ok ((nums s).drop n)) ∧ Step w (w.setCell ⟨p, 0, none⟩ (.string (s.extract n s.size))) [p] [p] :=
  ⟨⟨rfl, _, 0, by rw [heap_setCell_same w p 0 _ _ _ hp]; rfl, by simp; omega, rfl, nums_from s n⟩, r_moved 0 _⟩
theorem num_zero {s : ByteArray} (h : rdG 0 (nums s) = none) : numV s = 0 ∧ numN s = 0 := numV_none h
theorem rdG_rest : ∀ (bs : List Int) (i v : Nat) (r : List Int), rdG i bs = some (v, r) → r.length < bs.length ∧ r = bs.drop (bs.length - r.length) := by
  intro bs
  induction bs with
  | nil => intro i v r h; cases h
  | cons x bs ih =>
    intro i v r h
    rw [rdG] at h
    split at h
    · cases h
    · split at h
      · split at h
        · cases h
        · cases h
          exact ⟨by simp, by simp⟩
      · rcases hr : rdG (i + 1) bs with _ | ⟨v', r'⟩
        · rw [hr] at h; cases h
        · rw [hr] at h
          cases h
          obtain ⟨h1, h2⟩ := ih (i + 1) v' r' hr
          refine ⟨by simp; omega, ?_⟩
          rw [List.length_cons, show bs.length + 1 - r'.length = (bs.length - r'.length) + 1 by omega, List.drop_succ_cons]
          exact h2
theorem num_one {s : ByteArray} {v : Nat} {r : List Int} (h : rdG 0 (nums s) = some (v, r)) : numV s = v ∧ 0 < numN s ∧ numN s ≤ s.size ∧ (nums s).drop (numN s) = r := by
  obtain ⟨h1, h2⟩ := numV_some h
  obtain ⟨h3, h4⟩ := rdG_rest _ _ _ _ h
  rw [nums_len] at h3 h4
  exact ⟨h1, by omega, by omega, by rw [h2]; exact h4.symm⟩
theorem num_bound {s : ByteArray} : numV s < 18446744073709551616 := by
  cases h : rdG 0 (nums s) with
  | none => rw [(numV_none h).1]; omega
  | some q =>
    rw [(numV_some (v := q.1) (r := q.2) h).1]
    have := rdG_bound (nums s) 0 (by omega) (nums_bytes s) q.1 q.2 h
    simpa using this
theorem rdG_empty : rdG 0 (nums ByteArray.empty) = none := rfl
set_option maxRecDepth 100000 in
set_option maxHeartbeats 1000000 in
theorem ruint_any (p : Nat) (fp : List Nat) (st : St) (w : World) (hR : RObj w p fp st) :
    Calls Tryz.prog 53 #[.pointer (some ⟨p, 0, none⟩)] w (Goes RObj p fp st.uint.2 (.int .u64 (st.uint.1 : Nat)) w) := by
  have HR := Lib.hid hR
  obtain ⟨rfl, s, e, hp, hs, hst⟩ := hR
  have c0 := cell_at hp 0 (v := .string s) rfl
  have f0 := free_at hp 0
  have HP := Lib.hid hp
  clear hp
  cases st with
  | bad e' =>
    obtain ⟨rfl, he, rfl⟩ := hst
    have HZ := Lib.hid (num_zero rdG_empty)
    go_enter Tryz.func53, Tryz.ntmps53
    go_wp2_with (first
      | (go_at_call 82; refine (number_any _ _ hs).mono ?_; rintro e1 w1 ⟨rfl, rfl⟩; rw [HZ.out.1, HZ.out.2])
      | (go_at_call 77; refine (rfail_old p _ 4 _ _ HR.out).mono ?_; rintro e1 w1 ⟨rfl, hR1, hS1⟩; have HR1 := Lib.hid hR1; have HS1 := Lib.hid hS1; clear hR1 hS1))
    go_ret
    exact ⟨rfl, _, HR1.out, HS1.out⟩
  | ok bs =>
    obtain ⟨rfl, rfl⟩ := hst
    rcases hr : rdG 0 (nums s) with _ | ⟨v, r⟩
    · have HZ := Lib.hid (num_zero hr)
      have HU := Lib.hid (uint_none hr)
      clear hr
      go_enter Tryz.func53, Tryz.ntmps53
      go_wp2_with (first
        | (go_at_call 82; refine (number_any _ _ hs).mono ?_; rintro e1 w1 ⟨rfl, rfl⟩; rw [HZ.out.1, HZ.out.2])
        | (go_at_call 77; refine (rfail_new p _ 4 _ HP.out (by omega)).mono ?_; rintro e1 w1 ⟨rfl, hR1, hS1⟩; have HR1 := Lib.hid hR1; have HS1 := Lib.hid hS1; clear hR1 hS1))
      go_ret
      exact ⟨by rw [HU.out]; rfl, [p], by rw [HU.out]; exact HR1.out, HS1.out⟩
    · have HO := Lib.hid (num_one hr)
      have HU := Lib.hid (uint_some hr)
      obtain ⟨n, hn⟩ : ∃ n, numN s = n := ⟨_, rfl⟩
      have hn0 : 0 < n := by rw [← hn]; exact (num_one hr).2.1
      have hn1 : n ≤ s.size := by rw [← hn]; exact (num_one hr).2.2.1
      have hnz : ((n : Int) == 0) = false := by simp; omega
      have HN := Lib.hid hn
      clear hr hn
      go_enter Tryz.func53, Tryz.ntmps53
      go_wp2_with (first
        | (go_at_call 82; refine (number_any _ _ hs).mono ?_; rintro e1 w1 ⟨rfl, rfl⟩; rw [HN.out, HO.out.1]))
      go_ret
      have R := r_next (n := n) HP.out hs
      refine ⟨by rw [HU.out]; rfl, [p], ?_, R.2⟩
      rw [HU.out]
      have := HO.out.2.2.2
      rw [HN.out] at this
      rw [← this]
      exact R.1
end Pk
end Go.Proofs.YtpghaffjfinpeaaGreat

/-
  CONTRACTS of (*pack.Reader).Int, Mark, Done, and pack.unfolded.
-/
namespace Go.Proofs.YtpghaffjfinpeaaGreat
namespace Pk
open Go.RowKit
theorem robj_bound {w : World} {p : Nat} {fp : List Nat} {st : St} (h : RObj w p fp st) : st.uint.1 < 18446744073709551616 := by
  refine uint_bound fun bs e x hx => ?_
  subst e
  obtain ⟨_, s, _, _, _, _, rfl⟩ := h
  exact nums_bytes s x hx
theorem zig_yes {v : Nat} (h : v < 18446744073709551616) (h2 : v % 2 = 1) : bits BinOp.xor IntKind.i64 (-1) (wrap64 ((v : Int) / 2)) = unzig v := by
  rw [show ((v : Int) / 2) = ((v / 2 : Nat) : Int) by omega, wrap64_small (by omega) (by omega), i64_not _ (by omega), unzig, if_neg (by omega)]
  omega
theorem zig_no {v : Nat} (h : v < 18446744073709551616) (h2 : ¬ v % 2 = 1) : wrap64 ((v : Int) / 2) = unzig v := by
  rw [show ((v : Int) / 2) = ((v / 2 : Nat) : Int) by omega, wrap64_small (by omega) (by omega), unzig, if_pos (by omega)]
set_option maxRecDepth 100000 in
theorem unfolded_any (v : Nat) (w : World) (hv : v < 18446744073709551616) :
    Calls Tryz.prog 76 #[.int .u64 v] w fun r w' => r = .returned (.int .i64 (unzig v)) ∧ w = w' := by
  have HV := Lib.hid hv
  clear hv
  by_cases h2 : v % 2 = 1
  · go_enter Tryz.func76, Tryz.ntmps76
    go_wp2
    go_ret
    exact ⟨ret_i64 (zig_yes HV.out h2), rfl⟩
  · have hd : ((v : Int) % 2 == 1) = false := by simp; omega
    go_enter Tryz.func76, Tryz.ntmps76
    go_wp2
    go_ret
    exact ⟨ret_i64 (zig_no HV.out h2), rfl⟩
set_option maxRecDepth 100000 in
set_option maxHeartbeats 1000000 in
theorem rint_any (p : Nat) (fp : List Nat) (st : St) (w : World) (hR : RObj w p fp st) :
    Calls Tryz.prog 33 #[.pointer (some ⟨p, 0, none⟩)] w (Goes RObj p fp st.int.2 (.int .i64 st.int.1) w) := by
  have HB := Lib.hid (robj_bound hR)
  have HR := Lib.hid hR
  clear hR
  go_enter Tryz.func33, Tryz.ntmps33
  go_wp2_with (first
    | (go_at_call 53; refine (ruint_any p fp st _ HR.out).mono ?_; rintro e1 w1 ⟨rfl, fp1, hR1, hS1⟩; have HR1 := Lib.hid hR1; have HS1 := Lib.hid hS1; clear hR1 hS1)
    | (go_at_call 76; refine (unfolded_any _ _ HB.out).mono ?_; rintro e1 w1 ⟨rfl, rfl⟩))
  go_ret
  exact ⟨rfl, fp1, HR1.out, HS1.out⟩
theorem mark_pos {st : St} {v : Nat} (hv : v = st.uint.1) (h : 1 < v) : ∃ bs, st.uint.2 = .ok bs := by
  subst hv
  rcases uint_split st with ⟨e, hu⟩ | ⟨n, bs, hu⟩
  · rw [hu] at h; simp at h
  · exact ⟨bs, by rw [hu]⟩
set_option maxRecDepth 100000 in
set_option maxHeartbeats 1000000 in
theorem rmark_any (p : Nat) (fp : List Nat) (st : St) (w : World) (hR : RObj w p fp st) :
    Calls Tryz.prog 35 #[.pointer (some ⟨p, 0, none⟩)] w (Goes RObj p fp st.mark.2 (.bool st.mark.1) w) := by
  have HR := Lib.hid hR
  clear hR
  obtain ⟨v, hv1⟩ : ∃ v, v = st.uint.1 := ⟨_, rfl⟩
  have HE := Lib.hid hv1
  clear hv1
  by_cases h1 : 1 < v
  · have HS : Hid (st.mark = (false, .bad 4)) := by show _ = _; rw [St.mark, ← HE.out, if_pos h1]
    have HX := Lib.hid (mark_pos HE.out h1)
    go_enter Tryz.func35, Tryz.ntmps35
    go_wp2_with (first
      | (go_at_call 53; refine (ruint_any p fp st _ HR.out).mono ?_; rintro e1 w1 ⟨rfl, fp1, hR1, hS1⟩; rw [← HE.out]; obtain ⟨bs, hb⟩ := HX.out; rw [hb] at hR1; obtain ⟨rfl, s1, e1, hp1, hs1, rfl, -⟩ := hR1; have HP1 := Lib.hid hp1; have HS1 := Lib.hid hS1; clear hp1 hS1 hs1 hb)
      | (go_at_call 77; refine (rfail_new p _ 4 _ HP1.out (by omega)).mono ?_; rintro e2 w2 ⟨rfl, hR2, hS2⟩; have HR2 := Lib.hid hR2; have HS2 := Lib.hid (HS1.out.trans hS2); clear hR2 hS2))
    go_ret
    exact ⟨by rw [HS.out]; rfl, [p], by rw [HS.out]; exact HR2.out, HS2.out⟩
  · have HS : Hid (st.mark = (decide (st.uint.1 = 1), st.uint.2)) := by show _ = _; rw [St.mark, ← HE.out, if_neg h1]
    by_cases hv1 : v = 1
    · obtain rfl := hv1
      go_enter Tryz.func35, Tryz.ntmps35
      go_wp2_with (first
        | (go_at_call 53; refine (ruint_any p fp st _ HR.out).mono ?_; rintro e1 w1 ⟨rfl, fp1, hR1, hS1⟩; rw [← HE.out]; have HR1 := Lib.hid hR1; have HS1 := Lib.hid hS1; clear hR1 hS1))
      go_ret
      exact ⟨by rw [HS.out, ← HE.out]; rfl, fp1, by rw [HS.out]; exact HR1.out, HS1.out⟩
    · obtain rfl : v = 0 := by omega
      go_enter Tryz.func35, Tryz.ntmps35
      go_wp2_with (first
        | (go_at_call 53; refine (ruint_any p fp st _ HR.out).mono ?_; rintro e1 w1 ⟨rfl, fp1, hR1, hS1⟩; rw [← HE.out]; have HR1 := Lib.hid hR1; have HS1 := Lib.hid hS1; clear hR1 hS1))
      go_ret
      exact ⟨by rw [HS.out, ← HE.out]; rfl, fp1, by rw [HS.out]; exact HR1.out, HS1.out⟩
theorem done_some {s : ByteArray} (h : 0 < s.size) : (St.ok (nums s)).done = 4 := by
  have := nums_len s
  cases hn : nums s with
  | nil => rw [hn] at this; simp at this; omega
  | cons x r => rfl
set_option maxRecDepth 100000 in
set_option maxHeartbeats 1000000 in
theorem rdone_any (p : Nat) (fp : List Nat) (st : St) (w : World) (hR : RObj w p fp st) :
    Calls Tryz.prog 32 #[.pointer (some ⟨p, 0, none⟩)] w (Goes RObj p fp st (.int .i64 st.done) w) := by
  have HR := Lib.hid hR
  obtain ⟨rfl, s, e, hp, hs, hst⟩ := hR
  have c0 := cell_at hp 0 (v := .string s) rfl
  have c1 := cell_at hp 1 (v := .int .i64 e) rfl
  clear hp
  cases st with
  | bad e' =>
    obtain ⟨rfl, he, rfl⟩ := hst
    have hd : (e == 0) = false := by simpa using he
    clear he
    go_enter Tryz.func32, Tryz.ntmps32
    go_wp2
    go_ret
    exact ⟨rfl, _, HR.out, Step.refl _ _⟩
  | ok bs =>
    obtain ⟨rfl, rfl⟩ := hst
    by_cases hz : s.size = 0
    · obtain rfl : s = ByteArray.empty := ByteArray.ext (Array.eq_empty_of_size_eq_zero hz)
      go_enter Tryz.func32, Tryz.ntmps32
      go_wp2
      go_ret
      exact ⟨rfl, _, HR.out, Step.refl _ _⟩
    · have HD := Lib.hid (done_some (s := s) (by omega))
      have hE : s.toList.isEmpty = false := by
        rw [ByteArray.toList_eq]
        cases h : s.data.toList with
        | nil => exact absurd (by have := congrArg List.length h; simpa using this) hz
        | cons x r => rfl
      go_enter Tryz.func32, Tryz.ntmps32
      go_wp2
      go_ret
      exact ⟨by rw [HD.out]; rfl, _, HR.out, Step.refl _ _⟩
end Pk
end Go.Proofs.YtpghaffjfinpeaaGreat
