/-
  Bytes as texts; CONTRACTS of hansekeep.Bytes and hansekeep.Twin.
-/
import Derived.Test.YtpcmkjmkaggfbaaDoorProg
import Derived.Test.YtpcmkjmkaggfbaaDoorChecked
import Derived.Test.YtpcmkjmkaggfbaaDoorMem
import Derived.Laws.BytesArg
namespace Go.Proofs.YtpcmkjmkaggfbaaDoor
open Go.RowKit

/-- Whole numbers from 0 to 255. -/
def ByteList (xs : List Int) : Prop := ∀ x ∈ xs, 0 ≤ x ∧ x ≤ 255
theorem ByteList.append {xs ys : List Int} (h : ByteList xs) (g : ByteList ys) : ByteList (xs ++ ys) := fun x hx => (List.mem_append.1 hx).elim (h x) (g x)
theorem ByteList.nil : ByteList [] := fun x hx => by cases hx
theorem ByteList.take {xs : List Int} (h : ByteList xs) (n : Nat) : ByteList (xs.take n) := fun x hx => h x (List.mem_of_mem_take hx)
theorem ByteList.drop {xs : List Int} (h : ByteList xs) (n : Nat) : ByteList (xs.drop n) := fun x hx => h x (List.mem_of_mem_drop hx)

theorem strOfNums_inj : ∀ {xs ys : List Int}, ByteList xs → ByteList ys → strOfNums xs = strOfNums ys → xs = ys := by
  intro xs ys hx hy h
  have h1 : (xs.map fun n => UInt8.ofNat n.toNat) = ys.map fun n => UInt8.ofNat n.toNat := by
    have := congrArg (fun s : ByteArray => s.data.toList) h
    simpa [strOfNums] using this
  clear h
  induction xs generalizing ys with
  | nil => cases ys with
    | nil => rfl
    | cons y ys => simp at h1
  | cons x xs ih =>
    cases ys with
    | nil => simp at h1
    | cons y ys =>
      rw [List.map_cons, List.map_cons, List.cons.injEq] at h1
      have e := congrArg UInt8.toNat h1.1
      have hx0 := hx x (by simp)
      have hy0 := hy y (by simp)
      have ex : (UInt8.ofNat x.toNat).toNat = x.toNat := by simp; omega
      have ey : (UInt8.ofNat y.toNat).toNat = y.toNat := by simp; omega
      rw [ex, ey] at e
      rw [show x = y by omega, ih (fun z hz => hx z (by simp [hz])) (fun z hz => hy z (by simp [hz])) h1.2]

theorem run_convert_nrow {P : Program} (w : World) (src dst e : TypeId) (hs : P.underlying src = some (.slice e)) (he : P.underlying e = some (.int .u8)) (hd : P.underlying dst = some .string)
    (A : Option Addr) (n c : Nat) (xs : List Int) (hA : NRow .u8 w A xs) (hn : xs.length = n) :
    (convert src dst (.slice A n c)).run P w = .ok (.string (strOfNums xs)) w := by
  rcases A with _ | ad
  · have hx : xs = [] := by
      rcases xs with _ | ⟨y, r⟩
      · rfl
      · obtain ⟨_, _, h', _⟩ := hA 0 y (by simp)
        cases h'
    subst hx
    rw [run_convert_bytes_nil w src e hs he n c dst hd]; rfl
  · have hl : (loadCells ad n).run P w = .ok (xs.map (Value.int .u8)).toArray w := by
      have := run_loadCells_list (P := P) w ad (xs.map (Value.int .u8)) (fun j v hj => nrow_news hA j v hj)
      simpa [hn] using this
    rw [run_convert_bytes_string w src dst e _ n c hs he hd, run_bytesToString w _ n c xs hl, foldl_push_bytes]
    simp [strOfNums, ByteArray.empty, ByteArray.emptyWithCapacity]
    rfl
set_option maxRecDepth 100000 in
theorem bytes_any (A B : Option Addr) (n m c d : Nat) (xs ys : List Int) (w : World) (hA : NRow .u8 w A xs) (hB : NRow .u8 w B ys) (hn : xs.length = n) (hm : ys.length = m) :
    Calls Tryd.prog 20 #[.slice A n c, .slice B m d] w fun e w' => e = .returned (.bool ((strOfNums xs).toList == (strOfNums ys).toList)) ∧ w = w' := by
  have h1 := run_convert_nrow (P := Tryd.prog) w 25 9 5 Tryd.underlying25 Tryd.underlying5 Tryd.underlying9 A n c xs hA hn
  have h2 := run_convert_nrow (P := Tryd.prog) w 25 9 5 Tryd.underlying25 Tryd.underlying5 Tryd.underlying9 B m d ys hB hm
  clear hA hB hn hm
  go_enter Tryd.func20, Tryd.ntmps20
  go_wp2
  go_ret
  exact ⟨rfl, rfl⟩
theorem bytes_is (A B : Option Addr) (n m c d : Nat) (xs ys : List Int) (w : World) (hA : NRow .u8 w A xs) (hB : NRow .u8 w B ys) (hn : xs.length = n) (hm : ys.length = m) (bx : ByteList xs) (by_ : ByteList ys) (b : Bool) (hb : decide (xs = ys) = b) :
    Calls Tryd.prog 20 #[.slice A n c, .slice B m d] w fun e w' => e = .returned (.bool b) ∧ w = w' := by
  have h : ((strOfNums xs).toList == (strOfNums ys).toList) = b := by
    rw [← hb, Bool.eq_iff_iff]
    simp only [beq_iff_eq, decide_eq_true_eq]
    exact ⟨fun h => strOfNums_inj bx by_ (by
      rw [ByteArray.toList_eq, ByteArray.toList_eq] at h
      exact ByteArray.ext (Array.toList_inj.1 h)), fun h => by rw [h]⟩
  rw [← h]
  exact bytes_any A B n m c d xs ys w hA hB hn hm
theorem info_u8 : (Tryd.prog.info? 5).map (fun i => (i.zero, i.size, i.bytes)) = some (some (.int .u8 0), 1, 1) := by kernel_rfl
/-- A slice of bytes, the call's own, new. -/
def NewBytes (out : List Int) (w : World) (r : Ending) (w' : World) : Prop :=
  ∃ v, r = .returned v ∧ w'.ownsRow 0 5 1 v out.length (out.map (Value.int .u8)) ∧ Step w w' [] (rowOf v)
set_option maxRecDepth 100000 in
theorem twin_any (A : Option Addr) (n c : Nat) (xs : List Int) (w : World) (hA : NRow .u8 w A xs) (hn : xs.length = n) (hc : A = none → c = 0) (hlen : n ≤ 70368744177664) :
    Calls Tryd.prog 17 #[.slice A n c] w (NewBytes xs w) := by
  obtain ⟨i0, hi, hz0, hz1, hz2⟩ := info_parts info_u8
  have HA := Lib.hid hA
  have HN := Lib.hid hn
  have HC := Lib.hid hc
  clear hA hn hc
  go_enter Tryd.func17, Tryd.ntmps17
  go_wp2_with (at_builtin; refine wpList_append_row rfl _ _ 25 rfl 5 i0 .u8 1 Tryd.underlying25 hi hz0 hz1 hz2 (.slice none 0 0) 0 [] rfl (World.ownsRow_nil _ _ _ _) _ _ _ _ rfl HN.out HA.out HC.out (by unfold maxLen; omega) (by omega) ?_)
  intro v' w1 hown hst
  have HO := Lib.hid hown
  have HST := Lib.hid hst
  clear hown hst
  go_wp2
  go_ret
  exact ⟨v', rfl, by rw [HN.out]; simpa using HO.out, HST.out⟩
end Go.Proofs.YtpcmkjmkaggfbaaDoor
