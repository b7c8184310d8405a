/-
  4 texts in one: PackCanon, ReadDat, PackStr, PackNumber.
-/
import Derived.Test.YtpghaffjfinpeaaGreatKWireOnly01
import Derived.Test.YtpghaffjfinpeaaGreatKWireOnly00
import Derived.Deep.QuietTactic
import Derived.BigQuiet
import Derived.Laws.Bits64b

/-
  PLAIN: what was read is written in just those bytes, and what was written is read again.
-/
namespace Go.Proofs.YtpghaffjfinpeaaGreat
namespace Pk

theorem rdG_canon : ∀ (bs : List Int) (i v : Nat) (r : List Int), (∀ x ∈ bs, 0 ≤ x ∧ x ≤ 255) → rdG i bs = some (v, r) → bs = enc v ++ r ∧ (0 < i → 0 < v) := by
  intro bs
  induction bs with
  | nil => intro i v r _ h; cases h
  | cons x bs ih =>
    intro i v r hb h
    have hx := hb x (by simp)
    rw [rdG] at h
    split at h
    · cases h
    · split at h
      · rename_i hn hlt
        split at h
        · cases h
        · rename_i hz
          cases h
          refine ⟨?_, fun hi => by omega⟩
          rw [enc_low (by omega)]
          simp; omega
      · rename_i hn hge
        rcases hr : rdG (i + 1) bs with _ | ⟨v', r'⟩
        · rw [hr] at h; cases h
        · rw [hr] at h
          cases h
          obtain ⟨h1, h2⟩ := ih (i + 1) v' r' (fun y hy => hb y (by simp [hy])) hr
          have h3 := h2 (by omega)
          refine ⟨?_, fun _ => by omega⟩
          rw [enc_high (by omega), h1]
          rw [show (x.toNat % 128 + 128 * v') / 128 = v' by omega]
          simp; omega
theorem uint_canon {bs r : List Int} {v : Nat} (hb : ∀ x ∈ bs, 0 ≤ x ∧ x ≤ 255) (h : (St.ok bs).uint = (v, .ok r)) : bs = enc v ++ r := by
  unfold St.uint at h
  simp only at h
  rcases hr : rdG 0 bs with _ | ⟨v', r'⟩
  · rw [hr] at h; cases h
  · rw [hr] at h
    cases h
    exact (rdG_canon bs 0 v r hb hr).1
theorem rdG_back : ∀ (v i : Nat) (r : List Int), i ≤ 9 → v * 128 ^ i < 18446744073709551616 → (0 < i → 0 < v) → rdG i (enc v ++ r) = some (v, r) := by
  intro v
  induction v using Nat.strongRecOn with
  | _ v ih =>
    intro i r hi hv h0
    by_cases hlt : v < 128
    · rw [enc_low hlt]
      have h9 : ¬ (9 < i ∨ (i = 9 ∧ 1 < (v : Int))) := by
        rintro (h | ⟨h, h1⟩)
        · omega
        · subst h
          have h2 : 2 ≤ v := by omega
          have h3 := Nat.mul_le_mul_right (128 ^ 9) h2
          omega
      show rdG i ((v : Int) :: r) = _
      rw [rdG, if_neg h9, if_pos (by omega), if_neg (by rintro ⟨h1, h2⟩; have := h0 h2; omega)]
      simp
    · rw [enc_high (by omega)]
      have h8 : i ≤ 8 := by
        rcases Nat.lt_or_ge i 9 with h | h
        · omega
        · obtain rfl : i = 9 := by omega
          have h3 := Nat.mul_le_mul_right (128 ^ 9) (show 128 ≤ v by omega)
          omega
      show rdG i (((v % 128 + 128 : Nat) : Int) :: (enc (v / 128) ++ r)) = _
      rw [rdG, if_neg (by omega), if_neg (by omega), ih (v / 128) (by omega) (i + 1) r (by omega) ?_ (fun _ => by omega)]
      · simp only [Option.map_some, Option.some.injEq, Prod.mk.injEq, and_true, Int.toNat_natCast]
        omega
      · rw [Nat.pow_succ, Nat.mul_comm (128 ^ i) 128, ← Nat.mul_assoc]
        exact Nat.lt_of_le_of_lt (Nat.mul_le_mul_right _ (by omega)) hv
theorem uint_back {v : Nat} {r : List Int} (hv : v < 18446744073709551616) : (St.ok (enc v ++ r)).uint = (v, .ok r) := by
  unfold St.uint
  simp only
  rw [rdG_back v 0 r (by omega) (by omega) (fun h => by omega)]

theorem zig_unzig (v : Nat) : zig (unzig v) = v := by
  unfold zig unzig
  by_cases h : v % 2 = 0
  · rw [if_pos h, if_pos (by omega)]; omega
  · rw [if_neg h, if_neg (by omega)]; omega
end Pk
end Go.Proofs.YtpghaffjfinpeaaGreat

/-
  PLAIN: what a reader of things makes of bytes; how data lies in memory that is told by a set of blocks (ReadDat's HoldsD is WireDat's Holds, the set of blocks left open).
-/
namespace Go.Proofs.YtpghaffjfinpeaaGreat
namespace Wi
open Go.RowKit Pk Am
mutual
/-- The cell v holds d, of that kind; what it leads to lies in blocks of D. -/
def HoldsD (w : World) (D : Nat → Prop) : Kind → Value → Dat → Prop
  | .num, v, d => ∃ n, d = .num n ∧ v = .int .i64 n ∧ -9223372036854775808 ≤ n ∧ n ≤ 9223372036854775807
  | .mark, v, d => ∃ c, d = .mark c ∧ v = .bool c
  | .amt, v, d => ∃ n l : Nat, d = .amt n l ∧ v = amt n l ∧ n ≤ 1048576 ∧ l ≤ 1048576
  | .text, v, d => ∃ A n c l, d = .text l ∧ v = .slice A n c ∧ NRow .u8 w A l ∧ l.length = n ∧ (A = none → c = 0) ∧ (∀ k ∈ rowX A l, D k) ∧ n ≤ 35184372088832
  | .list most K, v, d => ∃ A n c rows, d = .list most rows ∧ v = .slice A n c ∧ rows.length = n ∧ n ≤ 35184372088832 ∧
      ∀ i r, rows[i]? = some r → ∃ g off vs, A = some ⟨g, off, none⟩ ∧ D g ∧ (∀ (j : Nat) v, vs[j]? = some v → w.cell? ⟨g, off + i * K.length + j, none⟩ = some v) ∧ HoldsDs w D K vs r
def HoldsDs (w : World) (D : Nat → Prop) : List Kind → List Value → List Dat → Prop
  | [], vs, ds => vs = [] ∧ ds = []
  | k :: ks, vs, ds => ∃ v vs' d ds', vs = v :: vs' ∧ ds = d :: ds' ∧ HoldsD w D k v d ∧ HoldsDs w D ks vs' ds'
end
mutual
theorem HoldsD.to {w w' : World} {D E : Nat → Prop} (hk : ∀ k, D k → w'.heap[k]? = w.heap[k]? ∧ E k) : ∀ (K : Kind) (v : Value) (d : Dat), HoldsD w D K v d → HoldsD w' E K v d
  | .num, v, d, h => by rw [HoldsD] at h ⊢; exact h
  | .mark, v, d, h => by rw [HoldsD] at h ⊢; exact h
  | .amt, v, d, h => by rw [HoldsD] at h ⊢; exact h
  | .text, v, d, h => by
    rw [HoldsD] at h ⊢
    obtain ⟨A, n, c, l, h1, h2, h3, h4, h5, h6, h7⟩ := h
    exact ⟨A, n, c, l, h1, h2, nrowx_stays h3 (fun k hm => (hk k (h6 k hm)).1), h4, h5, fun k hm => (hk k (h6 k hm)).2, h7⟩
  | .list most K, v, d, h => by
    rw [HoldsD] at h ⊢
    obtain ⟨A, n, c, rows, h1, h2, h3, h4, h5⟩ := h
    refine ⟨A, n, c, rows, h1, h2, h3, h4, fun i r hr => ?_⟩
    obtain ⟨g, off, vs, e1, e2, e3, e4⟩ := h5 i r hr
    exact ⟨g, off, vs, e1, (hk g e2).2, fun j v hv => by rw [World.cell?_of_block (w := w) (hk g e2).1]; exact e3 j v hv, HoldsDs.to hk K vs r e4⟩
theorem HoldsDs.to {w w' : World} {D E : Nat → Prop} (hk : ∀ k, D k → w'.heap[k]? = w.heap[k]? ∧ E k) : ∀ (K : List Kind) (vs : List Value) (ds : List Dat), HoldsDs w D K vs ds → HoldsDs w' E K vs ds
  | [], vs, ds, h => by rw [HoldsDs] at h ⊢; exact h
  | k :: ks, vs, ds, h => by
    rw [HoldsDs] at h ⊢
    obtain ⟨v, vs', d, ds', h1, h2, h3, h4⟩ := h
    exact ⟨v, vs', d, ds', h1, h2, HoldsD.to hk k v d h3, HoldsDs.to hk ks vs' ds' h4⟩
end
mutual
theorem HoldsD.holds {w : World} {D : Nat → Prop} {b : Nat} (hk : ∀ k, D k → k < b) : ∀ (K : Kind) (v : Value) (d : Dat), HoldsD w D K v d → Holds w b K v d
  | .num, v, d, h => by rw [HoldsD] at h; rw [Holds]; exact h
  | .mark, v, d, h => by rw [HoldsD] at h; rw [Holds]; exact h
  | .amt, v, d, h => by rw [HoldsD] at h; rw [Holds]; exact h
  | .text, v, d, h => by
    rw [HoldsD] at h
    rw [Holds]
    obtain ⟨A, n, c, l, h1, h2, h3, h4, h5, h6, h7⟩ := h
    exact ⟨A, n, c, l, h1, h2, h3, h4, h5, fun k hm => hk k (h6 k hm), h7⟩
  | .list most K, v, d, h => by
    rw [HoldsD] at h
    rw [Holds]
    obtain ⟨A, n, c, rows, h1, h2, h3, h4, h5⟩ := h
    refine ⟨A, n, c, rows, h1, h2, h3, h4, fun i r hr => ?_⟩
    obtain ⟨g, off, vs, e1, e2, e3, e4⟩ := h5 i r hr
    exact ⟨g, off, vs, e1, hk g e2, e3, HoldsDs.holds hk K vs r e4⟩
theorem HoldsDs.holds {w : World} {D : Nat → Prop} {b : Nat} (hk : ∀ k, D k → k < b) : ∀ (K : List Kind) (vs : List Value) (ds : List Dat), HoldsDs w D K vs ds → HoldsAll w b K vs ds
  | [], vs, ds, h => by rw [HoldsDs] at h; rw [HoldsAll]; exact h
  | k :: ks, vs, ds, h => by
    rw [HoldsDs] at h
    rw [HoldsAll]
    obtain ⟨v, vs', d, ds', h1, h2, h3, h4⟩ := h
    exact ⟨v, vs', d, ds', h1, h2, HoldsD.holds hk k v d h3, HoldsDs.holds hk ks vs' ds' h4⟩
end
theorem HoldsDs.append {w : World} {D : Nat → Prop} : ∀ {K1 K2 : List Kind} {v1 v2 : List Value} {d1 d2 : List Dat}, HoldsDs w D K1 v1 d1 → HoldsDs w D K2 v2 d2 → HoldsDs w D (K1 ++ K2) (v1 ++ v2) (d1 ++ d2)
  | [], K2, v1, v2, d1, d2, h1, h2 => by rw [HoldsDs] at h1; obtain ⟨rfl, rfl⟩ := h1; exact h2
  | k :: ks, K2, v1, v2, d1, d2, h1, h2 => by
    rw [HoldsDs] at h1
    obtain ⟨v, vs', d, ds', rfl, rfl, h3, h4⟩ := h1
    rw [List.cons_append, HoldsDs]
    exact ⟨v, vs' ++ v2, d, ds' ++ d2, rfl, rfl, h3, HoldsDs.append h4 h2⟩
theorem HoldsDs.one {w : World} {D : Nat → Prop} {k : Kind} {v : Value} {d : Dat} (h : HoldsD w D k v d) : HoldsDs w D [k] [v] [d] := by
  rw [HoldsDs]
  exact ⟨v, [], d, [], rfl, rfl, h, by rw [HoldsDs]; exact ⟨rfl, rfl⟩⟩
theorem HoldsDs.none_ (w : World) (D : Nat → Prop) : HoldsDs w D [] [] [] := by rw [HoldsDs]; exact ⟨rfl, rfl⟩
theorem HoldsDs.len {w : World} {D : Nat → Prop} : ∀ {K : List Kind} {vs : List Value} {ds : List Dat}, HoldsDs w D K vs ds → vs.length = K.length ∧ ds.length = K.length
  | [], vs, ds, h => by rw [HoldsDs] at h; obtain ⟨rfl, rfl⟩ := h; exact ⟨rfl, rfl⟩
  | k :: ks, vs, ds, h => by
    rw [HoldsDs] at h
    obtain ⟨v, vs', d, ds', rfl, rfl, _, h4⟩ := h
    have := HoldsDs.len h4
    simp [this.1, this.2]

/-- A reader of things: what is left to read, and whether a list was too long. -/
structure Rs where
  s : St
  t : Bool
/-- If all is well behind the reading of ds, all was well ahead of it, and what was read are the bytes of ds. -/
def Back (x : Rs) (ds : List Dat) (y : Rs) : Prop := ∀ bs, y.s = .ok bs → y.t = false → x.t = false ∧ RightDs ds ∧ x.s = .ok (encDs ds ++ bs)
theorem RightDs_append : ∀ (a b : List Dat), RightDs (a ++ b) ↔ RightDs a ∧ RightDs b
  | [], b => by rw [List.nil_append, RightDs.eq_1]; simp
  | d :: a, b => by rw [List.cons_append, RightDs, RightDs, RightDs_append a b, and_assoc]
theorem encDs_append : ∀ (a b : List Dat), encDs (a ++ b) = encDs a ++ encDs b
  | [], b => by rw [List.nil_append, encDs.eq_1, List.nil_append]
  | d :: a, b => by rw [List.cons_append, encDs, encDs, encDs_append a b, List.append_assoc]
theorem RightRows_append : ∀ (a b : List (List Dat)), RightRows (a ++ b) ↔ RightRows a ∧ RightRows b
  | [], b => by rw [List.nil_append, RightRows.eq_1]; simp
  | d :: a, b => by rw [List.cons_append, RightRows, RightRows, RightRows_append a b, and_assoc]
theorem encRows_append : ∀ (a b : List (List Dat)), encRows (a ++ b) = encRows a ++ encRows b
  | [], b => by rw [List.nil_append, encRows.eq_1, List.nil_append]
  | d :: a, b => by rw [List.cons_append, encRows, encRows, encRows_append a b, List.append_assoc]
theorem Back.refl (x : Rs) : Back x [] x := fun bs h1 h2 => ⟨h2, by rw [RightDs]; trivial, by rw [h1, encDs, List.nil_append]⟩
theorem Back.trans {x y z : Rs} {a b : List Dat} (h : Back x a y) (g : Back y b z) : Back x (a ++ b) z := fun bs h1 h2 => by
  obtain ⟨g1, g2, g3⟩ := g bs h1 h2
  obtain ⟨e1, e2, e3⟩ := h _ g3 g1
  exact ⟨e1, (RightDs_append a b).2 ⟨e2, g2⟩, by rw [e3, encDs_append, List.append_assoc]⟩
/-- Bytes alone are left. -/
def St.Bytes : St → Prop
  | .ok bs => ∀ x ∈ bs, 0 ≤ x ∧ x ≤ 255
  | .bad _ => True
theorem back_uint {s : St} (hb : St.Bytes s) (bs : List Int) (h1 : s.uint.2 = .ok bs) : s = .ok (enc s.uint.1 ++ bs) := by
  cases s with
  | bad e => cases h1
  | ok l => exact congrArg St.ok (uint_canon (v := (St.ok l).uint.1) (r := bs) hb (Prod.ext rfl h1))
theorem enc_one (d : Dat) : encDs [d] = encD d := by rw [encDs, encDs, List.append_nil]
theorem right_one {d : Dat} (h : RightD d) : RightDs [d] := by rw [RightDs, RightDs]; exact ⟨h, trivial⟩
theorem back_int {s : St} {t : Bool} (hb : St.Bytes s) : Back ⟨s, t⟩ [.num s.int.1] ⟨s.int.2, t⟩ := fun bs h1 h2 => by
  refine ⟨h2, right_one (by rw [RightD]; trivial), ?_⟩
  have h := back_uint hb bs h1
  rw [enc_one, encD, St.int, zig_unzig]
  exact h
theorem back_mark {s : St} {t : Bool} (hb : St.Bytes s) : Back ⟨s, t⟩ [.mark s.mark.1] ⟨s.mark.2, t⟩ := fun bs h1 h2 => by
  refine ⟨h2, right_one (by rw [RightD]; trivial), ?_⟩
  simp only [St.mark] at h1 ⊢
  split at h1
  · cases h1
  · rename_i hv
    have h := back_uint hb bs h1
    rw [if_neg hv, enc_one, encD]
    refine h.trans ?_
    congr 3
    by_cases h1 : s.uint.1 = 1
    · simp [h1]
    · simp [h1]; omega
theorem bytes_uint {s : St} (hb : St.Bytes s) : St.Bytes s.uint.2 := by
  cases h : s.uint.2 with
  | bad e => trivial
  | ok bs =>
    have h1 := back_uint hb bs h
    rw [h1] at hb
    exact fun x hx => hb x (by simp [hx])
theorem amount_le (s : St) : s.amount.1.1 ≤ 1048576 ∧ s.amount.1.2 ≤ 1048576 := by
  unfold St.amount
  split
  · exact ⟨by simp, by simp⟩
  · split
    · exact ⟨by simp, by simp⟩
    · rename_i h; simp only; omega
theorem back_amount {s : St} {t : Bool} (hb : St.Bytes s) : Back ⟨s, t⟩ [.amt s.amount.1.1 s.amount.1.2] ⟨s.amount.2, t⟩ := fun bs h1 h2 => by
  refine ⟨h2, right_one (by rw [RightD]; trivial), ?_⟩
  rw [enc_one, encD]
  simp only [St.amount] at h1 ⊢
  split at h1
  · cases h1
  · rename_i k l hk
    split at h1
    · cases h1
    · rename_i hbig
      rw [if_neg hbig]
      cases h1
      have g2 := back_uint (bytes_uint hb) bs (by rw [hk])
      rw [hk] at g2
      have g1 := back_uint hb _ g2
      refine g1.trans ?_
      rw [List.append_assoc]
theorem back_text {s : St} {t : Bool} (hb : St.Bytes s) : Back ⟨s, t⟩ [.text s.text.1] ⟨s.text.2, t⟩ := fun bs h1 h2 => by
  simp only [St.text] at h1 ⊢
  rcases hu : s.uint with ⟨n, e | l⟩
  · rw [hu] at h1
    simp only at h1 ⊢
    split at h1
    · cases h1
    · split at h1
      · cases h1
      · rename_i h5 h4
        rw [if_neg h5, if_neg h4]
        have hl : (e.take n).length = n := by rw [List.length_take]; omega
        refine ⟨h2, right_one (by rw [RightD, hl]; omega), ?_⟩
        have g := back_uint hb e (by rw [hu])
        rw [hu] at g
        rw [enc_one, encD, hl, g]
        have h1' : e.drop n = bs := by injection h1
        rw [← h1', List.append_assoc, List.take_append_drop]
  · rw [hu] at h1; cases h1
end Wi
end Go.Proofs.YtpghaffjfinpeaaGreat

/-
  PLAIN: a text's bytes as numbers.
-/
namespace Go.Proofs.YtpghaffjfinpeaaGreat
namespace Pk
open Go.RowKit
/-- The bytes of a text, as numbers. -/
def nums (s : ByteArray) : List Int := s.data.toList.map fun b => (b.toNat : Int)
theorem nums_len (s : ByteArray) : (nums s).length = s.size := by simp [nums]
theorem nums_bytes (s : ByteArray) : ByteList (nums s) := by
  intro x hx
  simp only [nums, List.mem_map] at hx
  obtain ⟨b, _, rfl⟩ := hx
  have := b.toNat_lt
  omega
theorem nums_at {s : ByteArray} {j : Nat} (h : j < s.size) : (nums s)[j]? = some ((s[j]).toNat : Int) := by
  have h2 : j < s.data.toList.length := by simpa using h
  rw [nums, List.getElem?_map, List.getElem?_eq_getElem h2]
  rfl
theorem nums_from (s : ByteArray) (i : Nat) : nums (s.extract i s.size) = (nums s).drop i := by
  have h0 : s.data.size = s.size := rfl
  simp only [nums, ByteArray.data_extract, Array.toList_extract, List.extract_eq_take_drop, ← h0]
  rw [List.take_of_length_le (by simp), List.map_drop]
theorem nums_to (s : ByteArray) (i : Nat) : nums (s.extract 0 i) = (nums s).take i := by
  simp only [nums, ByteArray.data_extract, Array.toList_extract, List.extract_eq_take_drop]
  simp [List.map_take]
theorem nums_str {xs : List Int} (h : ByteList xs) : nums (strOfNums xs) = xs := by
  simp only [nums, strOfNums]
  induction xs with
  | nil => rfl
  | cons x xs ih =>
    have hx := h x (by simp)
    have := ih (fun y hy => h y (by simp [hy]))
    simp only [List.map_cons, List.map_map, Function.comp_def] at this ⊢
    rw [this]
    congr 1
    simp
    omega
theorem nums_nil {s : ByteArray} (h : nums s = []) : s = ByteArray.empty := by
  have : s.size = 0 := by rw [← nums_len, h]; rfl
  exact ByteArray.ext (Array.eq_empty_of_size_eq_zero this)
end Pk
end Go.Proofs.YtpghaffjfinpeaaGreat

/-
  CONTRACT of pack.number: the number at a text's beginning.
-/
namespace Go.Proofs.YtpghaffjfinpeaaGreat
namespace Pk
open Go.RowKit
/-- The number that s begins with, and of how many bytes it is (none: 0). -/
def numV (s : ByteArray) : Nat := match rdG 0 (nums s) with | none => 0 | some (v, _) => v
def numN (s : ByteArray) : Nat := match rdG 0 (nums s) with | none => 0 | some (_, r) => s.size - r.length
theorem numV_none {s : ByteArray} (h : rdG 0 (nums s) = none) : numV s = 0 ∧ numN s = 0 := by simp [numV, numN, h]
theorem numV_some {s : ByteArray} {v : Nat} {r : List Int} (h : rdG 0 (nums s) = some (v, r)) : numV s = v ∧ numN s = s.size - r.length := by simp [numV, numN, h]
theorem pow_128 (j : Nat) : 128 ^ j = 2 ^ (j * 7) := by rw [show (128 : Nat) = 2 ^ 7 by rfl, ← Nat.pow_mul, Nat.mul_comm]
theorem or_val {acc j y : Nat} (hC : acc < 128 ^ j) (hj : j ≤ 9) (hy : ¬ (j = 9 ∧ 1 < y)) : bits BinOp.or IntKind.u64 (acc : Int) (IntKind.u64.wrap ((y : Int) % 128 * 2 ^ (j * 7))) = ((acc + y % 128 * 128 ^ j : Nat) : Int) := by
  have h := acc_lt (x := (y : Int)) hC hj (by omega)
  rw [show ((y : Int)).toNat = y by omega] at h
  have e : (y : Int) % 128 * 2 ^ (j * 7) = ((y % 128 * 128 ^ j : Nat) : Int) := by
    rw [pow_128, Int.natCast_mul, show ((y % 128 : Nat) : Int) = (y : Int) % 128 by omega]; simp
  rw [e, wrap_nat (by omega), bits_or_u64_nat _ _ (by omega) (by omega)]
  congr 1
  have h2 : acc < 2 ^ (j * 7) := by rw [← pow_128]; exact hC
  have := Nat.two_pow_add_eq_or_of_lt h2 (y % 128)
  rw [pow_128, Nat.mul_comm (y % 128), Nat.or_comm, ← this]
  omega
theorem or_val9 {acc : Nat} (hC : acc < 128 ^ 9) : bits BinOp.or IntKind.u64 (acc : Int) 9223372036854775808 = ((acc + 1 * 128 ^ 9 : Nat) : Int) := by
  have := or_val (y := 1) hC (by omega) (by omega)
  rwa [show IntKind.u64.wrap (((1 : Nat) : Int) % 128 * 2 ^ (9 * 7)) = 9223372036854775808 by decide] at this
theorem or_val0 : bits BinOp.or IntKind.u64 0 (IntKind.u64.wrap 0) = 0 := by decide
theorem ret_two {a c : Int} {b d : Nat} (h : a = b) (g : c = d) : Ending.returned (.tuple #[.int .u64 a, .int .i64 c]) = .returned (.tuple #[.int .u64 (b : Nat), .int .i64 (d : Nat)]) := by rw [h, g]
theorem num_end {s : ByteArray} {acc j y : Nat} (H : rdG 0 (nums s) = some (acc + y * 128 ^ j, (nums s).drop (j + 1))) (hj : j < s.size) : numV s = acc + y * 128 ^ j ∧ numN s = j + 1 := by
  obtain ⟨h1, h2⟩ := numV_some H
  refine ⟨h1, ?_⟩
  rw [h2, List.length_drop, nums_len]
  omega
theorem acc_up {acc j y : Nat} (hC : acc < 128 ^ j) : acc + y % 128 * 128 ^ j < 128 ^ (j + 1) := by
  have h2 : y % 128 * 128 ^ j ≤ 127 * 128 ^ j := Nat.mul_le_mul_right _ (by omega)
  rw [Nat.pow_succ]
  omega
set_option maxRecDepth 100000 in
set_option maxHeartbeats 1000000 in
theorem number_any (s : ByteArray) (w : World) (hs : s.size ≤ 70368744177664) :
    Calls Tryz.prog 82 #[.string s] w fun e w' => e = .returned (.tuple #[.int .u64 (numV s : Nat), .int .i64 (numN s : Nat)]) ∧ w = w' := by
  go_enter Tryz.func82, Tryz.ntmps82
  go_wp2
  go_loop [2, 8] (fun v i => ∃ acc j : Nat, v = .int .u64 acc ∧ i = .int .i64 j ∧ j ≤ 9 ∧ j ≤ s.size ∧ Hid (acc < 128 ^ j) ∧ Hid (rdG 0 (nums s) = lift acc j (rdG j ((nums s).drop j)))) (fun _ i => 10 - (intOf i).toNat)
  case atStart => exact ⟨0, 0, rfl, rfl, by omega, by omega, by simp [Hid], by simp [Hid, lift_start]⟩
  case round =>
    obtain ⟨acc, j, rfl, rfl, hj, hjs, HC, H⟩ := hrel
    by_cases hlt : j < s.size
    · have HD := Lib.hid (drop_at (nums_at hlt))
      have hx1 : (s[j]).toNat < 256 := (s[j]).toNat_lt
      by_cases h9 : j = 9 ∧ 1 < (s[j]).toNat
      · have HN := Lib.hid (numV_none (by rw [H.out, HD.out, rdG_big _ h9.1 (by omega), lift_none]))
        obtain ⟨rfl, h91⟩ := h9
        clear H HD HC
        go_wp2
        go_ret2
        exact ⟨by rw [HN.out.1, HN.out.2]; rfl, rfl⟩
      · by_cases h128 : (s[j]).toNat < 128
        · by_cases hz : (s[j]).toNat = 0 ∧ 0 < j
          · have HN := Lib.hid (numV_none (by rw [H.out, HD.out, hz.1]; rw [show ((0 : Nat) : Int) = 0 by rfl, rdG_zero _ hz.2 hj, lift_none]))
            clear H HD HC
            go_wp2
            all_goals
              go_ret2
              exact ⟨by rw [HN.out.1, HN.out.2]; rfl, rfl⟩
          · obtain ⟨y, hy⟩ : ∃ y, (s[j]).toNat = y := ⟨_, rfl⟩
            have HE := Lib.hid (num_end (acc := acc) (y := y) (by rw [H.out, HD.out, hy, lift_last _ hj (by omega) (by omega) (by omega)]; rfl) hlt)
            rw [hy] at hx1 h9 h128 hz
            by_cases h0 : y = 0
            · obtain rfl : j = 0 := by omega
              obtain rfl : acc = 0 := by have := HC.out; omega
              subst h0
              clear H HD HC
              go_wp2
              go_ret2
              exact ⟨ret_two (by rw [HE.out.1]; exact or_val0) (by rw [HE.out.2]; rfl), rfl⟩
            by_cases hj9 : j = 9
            · obtain rfl : y = 1 := by omega
              subst hj9
              have HV := Lib.hid (or_val9 HC.out)
              clear H HD HC
              go_wp2
              go_ret2
              exact ⟨ret_two (by rw [HE.out.1]; exact HV.out) (by rw [HE.out.2]; rfl), rfl⟩
            · have HV := Lib.hid (or_val (y := y) HC.out hj h9)
              have hm : y % 128 = y := Nat.mod_eq_of_lt h128
              rw [hm] at HV
              clear H HD HC hm
              go_wp2
              go_ret2
              exact ⟨ret_two (by rw [HE.out.1]; exact HV.out) (by rw [HE.out.2]; rfl), rfl⟩
        · have hj8 : j ≤ 8 := by omega
          obtain ⟨y, hy⟩ : ∃ y, (s[j]).toNat = y := ⟨_, rfl⟩
          have HN := Lib.hid (H.out.trans (by rw [HD.out, hy, lift_more _ hj8 (by omega)]; rfl) : _ = lift (acc + y % 128 * 128 ^ j) (j + 1) (rdG (j + 1) ((nums s).drop (j + 1))))
          have HV := Lib.hid (or_val (y := y) HC.out hj (by omega))
          have HU := Lib.hid (acc_up (y := y) HC.out)
          rw [hy] at hx1 h9 h128
          clear H HD HC
          go_wp2
          go_round
          case rel => exact ⟨_, j + 1, by rw [HV.out], by go_num, by omega, by omega, HU, HN⟩
          case measure => simp [intOf]; omega
    · have HN := Lib.hid (numV_none (by rw [H.out, List.drop_of_length_le (by rw [nums_len]; omega), rdG_nil, lift_none]))
      clear H HC
      go_wp2
      go_ret2
      exact ⟨by rw [HN.out.1, HN.out.2]; rfl, rfl⟩
end Pk
end Go.Proofs.YtpghaffjfinpeaaGreat
