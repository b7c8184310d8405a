/-
  Bytes as texts (no contract).
-/
import Derived.Test.YtekleamkpfeifaaDoorProg
import Derived.Test.YtekleamkpfeifaaDoorChecked
import Derived.Test.YtekleamkpfeifaaDoorMem
import Derived.Laws.BytesArg
namespace Go.Proofs.YtekleamkpfeifaaDoor
open Go.RowKit

/-- Whole numbers from 0 to 255. -/
def ByteList (xs : List Int) : Prop := ∀ x ∈ xs, 0 ≤ x ∧ x ≤ 255
theorem ByteList.append {xs ys : List Int} (h : ByteList xs) (g : ByteList ys) : ByteList (xs ++ ys) := fun x hx => (List.mem_append.1 hx).elim (h x) (g x)
theorem ByteList.nil : ByteList [] := fun x hx => by cases hx
theorem ByteList.take {xs : List Int} (h : ByteList xs) (n : Nat) : ByteList (xs.take n) := fun x hx => h x (List.mem_of_mem_take hx)
theorem ByteList.drop {xs : List Int} (h : ByteList xs) (n : Nat) : ByteList (xs.drop n) := fun x hx => h x (List.mem_of_mem_drop hx)

theorem strOfNums_inj : ∀ {xs ys : List Int}, ByteList xs → ByteList ys → strOfNums xs = strOfNums ys → xs = ys := by
  intro xs ys hx hy h
  have h1 : (xs.map fun n => UInt8.ofNat n.toNat) = ys.map fun n => UInt8.ofNat n.toNat := by
    have := congrArg (fun s : ByteArray => s.data.toList) h
    simpa [strOfNums] using this
  clear h
  induction xs generalizing ys with
  | nil => cases ys with
    | nil => rfl
    | cons y ys => simp at h1
  | cons x xs ih =>
    cases ys with
    | nil => simp at h1
    | cons y ys =>
      rw [List.map_cons, List.map_cons, List.cons.injEq] at h1
      have e := congrArg UInt8.toNat h1.1
      have hx0 := hx x (by simp)
      have hy0 := hy y (by simp)
      have ex : (UInt8.ofNat x.toNat).toNat = x.toNat := by simp; omega
      have ey : (UInt8.ofNat y.toNat).toNat = y.toNat := by simp; omega
      rw [ex, ey] at e
      rw [show x = y by omega, ih (fun z hz => hx z (by simp [hz])) (fun z hz => hy z (by simp [hz])) h1.2]

theorem run_convert_nrow {P : Program} (w : World) (src dst e : TypeId) (hs : P.underlying src = some (.slice e)) (he : P.underlying e = some (.int .u8)) (hd : P.underlying dst = some .string)
    (A : Option Addr) (n c : Nat) (xs : List Int) (hA : NRow .u8 w A xs) (hn : xs.length = n) :
    (convert src dst (.slice A n c)).run P w = .ok (.string (strOfNums xs)) w := by
  rcases A with _ | ad
  · have hx : xs = [] := by
      rcases xs with _ | ⟨y, r⟩
      · rfl
      · obtain ⟨_, _, h', _⟩ := hA 0 y (by simp)
        cases h'
    subst hx
    rw [run_convert_bytes_nil w src e hs he n c dst hd]; rfl
  · have hl : (loadCells ad n).run P w = .ok (xs.map (Value.int .u8)).toArray w := by
      have := run_loadCells_list (P := P) w ad (xs.map (Value.int .u8)) (fun j v hj => nrow_news hA j v hj)
      simpa [hn] using this
    rw [run_convert_bytes_string w src dst e _ n c hs he hd, run_bytesToString w _ n c xs hl, foldl_push_bytes]
    simp [strOfNums, ByteArray.empty, ByteArray.emptyWithCapacity]
    rfl
theorem info_u8 : (Tryd.prog.info? 5).map (fun i => (i.zero, i.size, i.bytes)) = some (some (.int .u8 0), 1, 1) := by kernel_rfl
/-- A slice of bytes, the call's own, new. -/
def NewBytes (out : List Int) (w : World) (r : Ending) (w' : World) : Prop :=
  ∃ v, r = .returned v ∧ w'.ownsRow 0 5 1 v out.length (out.map (Value.int .u8)) ∧ Step w w' [] (rowOf v)
end Go.Proofs.YtekleamkpfeifaaDoor
