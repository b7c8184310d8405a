/-
  PLAIN: what a reader of bytes has before it, and what each reading makes of it.
-/
import Derived.Test.YtekleamkpfeifaaDoorPackEnc
namespace Go.Proofs.YtekleamkpfeifaaDoor
namespace Pk

/-- The number at the beginning of bytes, from its i-th group of seven bits on; and what stands behind it. -/
def rdG (i : Nat) : List Int → Option (Nat × List Int)
  | [] => none
  | x :: r =>
    if 9 < i ∨ (i = 9 ∧ 1 < x) then none
    else if x < 128 then (if x = 0 ∧ 0 < i then none else some (x.toNat, r))
    else (rdG (i + 1) r).map fun p => (x.toNat % 128 + 128 * p.1, p.2)

/-- A reader: bytes that are not read yet, or the error. -/
inductive St where
  | ok (bs : List Int)
  | bad (e : Int)

def St.uint : St → Nat × St
  | .bad e => (0, .bad e)
  | .ok bs => match rdG 0 bs with
    | none => (0, .bad 4)
    | some (v, r) => (v, .ok r)
/-- The whole number that is written as v. -/
def unzig (v : Nat) : Int := if v % 2 = 0 then ((v / 2 : Nat) : Int) else -((v / 2 : Nat) : Int) - 1
def St.int (s : St) : Int × St := (unzig s.uint.1, s.uint.2)
def St.mark (s : St) : Bool × St := if 1 < s.uint.1 then (false, .bad 4) else (decide (s.uint.1 = 1), s.uint.2)
def St.text (s : St) : List Int × St :=
  match s.uint with
  | (_, .bad e) => ([], .bad e)
  | (n, .ok bs) => if 131072 < n then ([], .bad 5) else if bs.length < n then ([], .bad 4) else (bs.take n, .ok (bs.drop n))
def St.amount (s : St) : (Nat × Nat) × St :=
  match s.uint.2.uint with
  | (_, .bad e) => ((0, 0), .bad e)
  | (k, .ok bs) => if 1048576 < s.uint.1 ∨ 1048576 < k then ((0, 0), .bad 2) else ((s.uint.1, k), .ok bs)
def St.done : St → Int
  | .bad e => e
  | .ok [] => 0
  | .ok (_ :: _) => 4
/-- An error is never 0. -/
def St.fine : St → Prop
  | .bad e => e ≠ 0
  | .ok _ => True

/-- acc and what the groups from the i-th on make, times 128^i. -/
def lift (acc i : Nat) (o : Option (Nat × List Int)) : Option (Nat × List Int) := o.map fun p => (acc + 128 ^ i * p.1, p.2)
theorem lift_start (o : Option (Nat × List Int)) : lift 0 0 o = o := by
  unfold lift; cases o <;> simp
theorem lift_none (acc i : Nat) : lift acc i none = none := rfl

theorem rdG_nil (i : Nat) : rdG i [] = none := rfl
theorem rdG_big {i : Nat} {x : Int} (r : List Int) (h : i = 9) (hx : 1 < x) : rdG i (x :: r) = none := by rw [rdG, if_pos (.inr ⟨h, hx⟩)]
theorem rdG_zero {i : Nat} (r : List Int) (h : 0 < i) (h9 : i ≤ 9) : rdG i (0 :: r) = none := by rw [rdG, if_neg (by omega), if_pos (by omega), if_pos ⟨rfl, h⟩]
theorem rdG_last {i : Nat} {x : Int} (r : List Int) (h9 : i ≤ 9) (hn : ¬ (i = 9 ∧ 1 < x)) (hx : x < 128) (hz : ¬ (x = 0 ∧ 0 < i)) : rdG i (x :: r) = some (x.toNat, r) := by
  rw [rdG, if_neg (by omega), if_pos hx, if_neg hz]
theorem rdG_more {i : Nat} {x : Int} (r : List Int) (h8 : i ≤ 8) (hx : 128 ≤ x) : rdG i (x :: r) = (rdG (i + 1) r).map fun p => (x.toNat % 128 + 128 * p.1, p.2) := by
  rw [rdG, if_neg (by omega), if_neg (by omega)]
theorem lift_more {acc i : Nat} {x : Int} (r : List Int) (h8 : i ≤ 8) (hx : 128 ≤ x) : lift acc i (rdG i (x :: r)) = lift (acc + x.toNat % 128 * 128 ^ i) (i + 1) (rdG (i + 1) r) := by
  rw [rdG_more r h8 hx]
  unfold lift
  cases rdG (i + 1) r with
  | none => rfl
  | some p =>
    simp only [Option.map_some, Option.some.injEq, Prod.mk.injEq, and_true]
    rw [Nat.pow_succ, Nat.mul_add, Nat.mul_comm (128 ^ i) (x.toNat % 128), Nat.add_assoc, Nat.mul_assoc]
theorem lift_last {acc i : Nat} {x : Int} (r : List Int) (h9 : i ≤ 9) (hn : ¬ (i = 9 ∧ 1 < x)) (hx : x < 128) (hz : ¬ (x = 0 ∧ 0 < i)) : lift acc i (rdG i (x :: r)) = some (acc + x.toNat * 128 ^ i, r) := by
  rw [rdG_last r h9 hn hx hz]
  simp [lift, Nat.mul_comm]

theorem rdG_bound : ∀ (bs : List Int) (i : Nat), i ≤ 9 → (∀ x ∈ bs, 0 ≤ x ∧ x ≤ 255) → ∀ v r, rdG i bs = some (v, r) → 128 ^ i * v < 18446744073709551616 := by
  intro bs
  induction bs with
  | nil => intro i _ _ v r h; cases h
  | cons x bs ih =>
    intro i hi hb v r h
    have hx := hb x (by simp)
    rw [rdG] at h
    split at h
    · cases h
    · rename_i hn
      split at h
      · split at h
        · cases h
        · cases h
          by_cases h9 : i = 9
          · subst h9
            have : x.toNat ≤ 1 := by omega
            have := Nat.mul_le_mul_left (128 ^ 9) this
            omega
          · have h1 : 128 ^ i ≤ 128 ^ 8 := Nat.pow_le_pow_right (by omega) (by omega)
            have h2 : 128 ^ i * x.toNat ≤ 128 ^ 8 * 127 := Nat.mul_le_mul h1 (by omega)
            omega
      · rename_i hx2
        have h8 : i ≤ 8 := by omega
        rcases hr : rdG (i + 1) bs with _ | ⟨v', r'⟩
        · rw [hr] at h; cases h
        · rw [hr] at h
          cases h
          have h1 := ih (i + 1) (by omega) (fun y hy => hb y (by simp [hy])) v' r' hr
          rw [Nat.pow_succ] at h1
          have h3 : 128 ^ i * (x.toNat % 128 + 128 * v') = 128 ^ i * (x.toNat % 128) + 128 ^ i * 128 * v' := by rw [Nat.mul_add, Nat.mul_assoc]
          rw [h3]
          have h4 : 128 ^ i * (x.toNat % 128) < 128 ^ i * 128 := Nat.mul_lt_mul_of_pos_left (by omega) (Nat.pow_pos (by omega))
          -- a multiple of 128^(i+1) below 2^64 leaves room for one less than 128^(i+1)
          have h5 : 128 ^ i * 128 ∣ 18446744073709551616 ∨ i = 9 := by
            left
            have : (128 : Nat) ^ i * 128 = 2 ^ (7 * (i + 1)) := by rw [← Nat.pow_succ, show (128 : Nat) = 2 ^ 7 by rfl, ← Nat.pow_mul]
            rw [this, show (18446744073709551616 : Nat) = 2 ^ 64 by rfl]
            exact Nat.pow_dvd_pow 2 (by omega)
          rcases h5 with ⟨c, hc⟩ | h5
          · rw [hc] at h1 ⊢
            have h6 : v' < c := Nat.lt_of_mul_lt_mul_left h1
            have h7 : 128 ^ i * 128 * (v' + 1) ≤ 128 ^ i * 128 * c := Nat.mul_le_mul_left _ (by omega)
            rw [Nat.mul_add, Nat.mul_one] at h7
            omega
          · omega
theorem uint_bound {s : St} (h : ∀ bs, s = .ok bs → ∀ x ∈ bs, 0 ≤ x ∧ x ≤ 255) : s.uint.1 < 18446744073709551616 := by
  unfold St.uint
  cases s with
  | bad e => simp
  | ok bs =>
    simp only
    rcases hr : rdG 0 bs with _ | ⟨v, r⟩
    · simp
    · have := rdG_bound bs 0 (by omega) (h bs rfl) v r hr
      simpa using this
end Pk
end Go.Proofs.YtekleamkpfeifaaDoor
