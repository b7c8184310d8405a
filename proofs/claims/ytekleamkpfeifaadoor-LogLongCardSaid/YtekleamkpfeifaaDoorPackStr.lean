/-
  PLAIN: a text's bytes as numbers.
-/
import Derived.Test.YtekleamkpfeifaaDoorBytesPlain
import Derived.Test.YtekleamkpfeifaaDoorPackSt
namespace Go.Proofs.YtekleamkpfeifaaDoor
namespace Pk
open Go.RowKit
/-- The bytes of a text, as numbers. -/
def nums (s : ByteArray) : List Int := s.data.toList.map fun b => (b.toNat : Int)
theorem nums_len (s : ByteArray) : (nums s).length = s.size := by simp [nums]
theorem nums_bytes (s : ByteArray) : ByteList (nums s) := by
  intro x hx
  simp only [nums, List.mem_map] at hx
  obtain ⟨b, _, rfl⟩ := hx
  have := b.toNat_lt
  omega
theorem nums_at {s : ByteArray} {j : Nat} (h : j < s.size) : (nums s)[j]? = some ((s[j]).toNat : Int) := by
  have h2 : j < s.data.toList.length := by simpa using h
  rw [nums, List.getElem?_map, List.getElem?_eq_getElem h2]
  rfl
theorem nums_from (s : ByteArray) (i : Nat) : nums (s.extract i s.size) = (nums s).drop i := by
  have h0 : s.data.size = s.size := rfl
  simp only [nums, ByteArray.data_extract, Array.toList_extract, List.extract_eq_take_drop, ← h0]
  rw [List.take_of_length_le (by simp), List.map_drop]
theorem nums_to (s : ByteArray) (i : Nat) : nums (s.extract 0 i) = (nums s).take i := by
  simp only [nums, ByteArray.data_extract, Array.toList_extract, List.extract_eq_take_drop]
  simp [List.map_take]
theorem nums_str {xs : List Int} (h : ByteList xs) : nums (strOfNums xs) = xs := by
  simp only [nums, strOfNums]
  induction xs with
  | nil => rfl
  | cons x xs ih =>
    have hx := h x (by simp)
    have := ih (fun y hy => h y (by simp [hy]))
    simp only [List.map_cons, List.map_map, Function.comp_def] at this ⊢
    rw [this]
    congr 1
    simp
    omega
theorem nums_nil {s : ByteArray} (h : nums s = []) : s = ByteArray.empty := by
  have : s.size = 0 := by rw [← nums_len, h]; rfl
  exact ByteArray.ext (Array.eq_empty_of_size_eq_zero this)
end Pk
end Go.Proofs.YtekleamkpfeifaaDoor
