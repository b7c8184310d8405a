/-
  PLAIN: CRC-32C over natural numbers: it is linear, and a change of up to four bytes in a row is told.
-/
namespace Go.Proofs.YtekleamkpfeifaaDoor
namespace Fr

def poly : Nat := 2197175160
/-- One bit of the register. -/
def tick (r : Nat) : Nat := if r % 2 = 1 then (r / 2) ^^^ poly else r / 2
def ticks : Nat → Nat → Nat
  | 0, r => r
  | n + 1, r => ticks n (tick r)
/-- The register behind bytes. -/
def crc (r : Nat) (bs : List Nat) : Nat := bs.foldl (fun r b => ticks 8 (r ^^^ b)) r
/-- The sum of bytes. -/
def sumOf (bs : List Nat) : Nat := 4294967295 - crc 4294967295 bs

theorem xor_div (x y : Nat) : (x ^^^ y) / 2 = (x / 2) ^^^ (y / 2) := by
  apply Nat.eq_of_testBit_eq
  intro i
  rw [Nat.testBit_xor, Nat.testBit_div_two, Nat.testBit_div_two, Nat.testBit_div_two, Nat.testBit_xor]
theorem xor_mod (x y : Nat) : (x ^^^ y) % 2 = (x % 2 + y % 2) % 2 := by
  have h := Nat.testBit_xor x y 0
  simp only [Nat.testBit_zero] at h
  have hx := Nat.mod_two_eq_zero_or_one x
  have hy := Nat.mod_two_eq_zero_or_one y
  have hz := Nat.mod_two_eq_zero_or_one (x ^^^ y)
  rcases hx with hx | hx <;> rcases hy with hy | hy <;> rcases hz with hz | hz <;> simp [hx, hy, hz] at h ⊢
theorem tick_xor (x y : Nat) : tick (x ^^^ y) = tick x ^^^ tick y := by
  unfold tick
  rw [xor_mod, xor_div]
  have hx := Nat.mod_two_eq_zero_or_one x
  have hy := Nat.mod_two_eq_zero_or_one y
  rcases hx with hx | hx <;> rcases hy with hy | hy <;> simp only [hx, hy]
  · simp
  · simp [Nat.xor_assoc]
  · simp [Nat.xor_assoc, Nat.xor_comm poly]
  · simp only [Nat.reduceAdd, Nat.reduceMod, Nat.zero_ne_one, if_false, if_true]
    rw [Nat.xor_assoc, Nat.xor_comm poly, Nat.xor_assoc, Nat.xor_self, Nat.xor_zero]
theorem ticks_xor (n : Nat) : ∀ x y, ticks n (x ^^^ y) = ticks n x ^^^ ticks n y := by
  induction n with
  | zero => intro x y; rfl
  | succ n ih => intro x y; show ticks n (tick (x ^^^ y)) = _; rw [tick_xor, ih]; rfl
theorem tick_lt {r : Nat} (h : r < 4294967296) : tick r < 4294967296 := by
  unfold tick
  split
  · exact Nat.xor_lt_two_pow (n := 32) (by omega) (by decide)
  · omega
theorem ticks_lt (n : Nat) : ∀ r, r < 4294967296 → ticks n r < 4294967296 := by
  induction n with
  | zero => intro r h; exact h
  | succ n ih => intro r h; exact ih _ (tick_lt h)
theorem tick_zero {r : Nat} (h : r < 4294967296) (h0 : tick r = 0) : r = 0 := by
  unfold tick at h0
  split at h0
  · have h1 : r / 2 = poly := by
      have h2 := congrArg (· ^^^ poly) h0
      simpa [Nat.xor_assoc] using h2
    unfold poly at h1
    omega
  · omega
theorem ticks_zero (n : Nat) : ∀ r, r < 4294967296 → ticks n r = 0 → r = 0 := by
  induction n with
  | zero => intro r _ h; exact h
  | succ n ih => intro r h h0; exact tick_zero h (ih _ (tick_lt h) h0)
theorem ticks_of_zero (n : Nat) : ticks n 0 = 0 := by
  induction n with
  | zero => rfl
  | succ n ih => exact ih
theorem tick_double (x : Nat) : tick (2 * x) = x := by unfold tick; rw [if_neg (by omega)]; omega
theorem ticks_shift (n : Nat) : ∀ x, ticks n (x * 2 ^ n) = x := by
  induction n with
  | zero => intro x; simp [ticks]
  | succ n ih =>
    intro x
    show ticks n (tick (x * 2 ^ (n + 1))) = x
    rw [show x * 2 ^ (n + 1) = 2 * (x * 2 ^ n) by rw [Nat.pow_succ, ← Nat.mul_assoc, Nat.mul_comm], tick_double, ih]
theorem ticks_add (n m : Nat) : ∀ r, ticks (n + m) r = ticks m (ticks n r) := by
  induction n with
  | zero => intro r; rw [Nat.zero_add]; rfl
  | succ n ih => intro r; rw [Nat.add_right_comm]; exact ih _

/-- How the difference of two registers goes on, where the bytes differ by es. -/
def dif (d : Nat) (es : List Nat) : Nat := es.foldl (fun d e => ticks 8 (d ^^^ e)) d
theorem crc_cons (r b : Nat) (bs : List Nat) : crc r (b :: bs) = crc (ticks 8 (r ^^^ b)) bs := rfl
theorem dif_cons (d e : Nat) (es : List Nat) : dif d (e :: es) = dif (ticks 8 (d ^^^ e)) es := rfl
theorem crc_append (r : Nat) (a b : List Nat) : crc r (a ++ b) = crc (crc r a) b := by unfold crc; rw [List.foldl_append]
theorem dif_append (d : Nat) (a b : List Nat) : dif d (a ++ b) = dif (dif d a) b := by unfold dif; rw [List.foldl_append]
theorem crc_dif : ∀ (as bs : List Nat) (r s : Nat), as.length = bs.length → crc r as ^^^ crc s bs = dif (r ^^^ s) (List.zipWith (· ^^^ ·) as bs) := by
  intro as
  induction as with
  | nil => intro bs r s h; cases bs with
    | nil => rfl
    | cons b bs => simp at h
  | cons a as ih =>
    intro bs r s h
    cases bs with
    | nil => simp at h
    | cons b bs =>
      rw [crc_cons, crc_cons, ih bs _ _ (by simpa using h), List.zipWith_cons_cons, dif_cons, ← ticks_xor]
      congr 2
      rw [Nat.xor_assoc, Nat.xor_assoc, ← Nat.xor_assoc a, Nat.xor_comm a s, Nat.xor_assoc s]
theorem crc_lt : ∀ (bs : List Nat) (r : Nat), r < 4294967296 → (∀ b ∈ bs, b < 256) → crc r bs < 4294967296 := by
  intro bs
  induction bs with
  | nil => intro r h _; exact h
  | cons b bs ih =>
    intro r h hb
    rw [crc_cons]
    exact ih _ (ticks_lt 8 _ (Nat.xor_lt_two_pow (n := 32) (by omega) (by have := hb b (by simp); omega))) (fun c hc => hb c (by simp [hc]))
theorem dif_lt : ∀ (bs : List Nat) (r : Nat), r < 4294967296 → (∀ b ∈ bs, b < 256) → dif r bs < 4294967296 := crc_lt
theorem dif_zeros : ∀ (n d : Nat), d < 4294967296 → dif d (List.replicate n 0) = 0 → d = 0 := by
  intro n
  induction n with
  | zero => intro d _ h; exact h
  | succ n ih =>
    intro d h h0
    rw [List.replicate_succ, dif_cons, Nat.xor_zero] at h0
    exact ticks_zero 8 d h (ih _ (ticks_lt 8 _ h) h0)
theorem xor_apart {w e n : Nat} (hw : w < 2 ^ n) (h : w ^^^ (e * 2 ^ n) = 0) : w = 0 ∧ e = 0 := by
  have h1 : w = e * 2 ^ n := by
    have h2 := congrArg (· ^^^ (e * 2 ^ n)) h
    simpa [Nat.xor_assoc] using h2
  rcases Nat.eq_zero_or_pos e with he | he
  · subst he; exact ⟨by simpa using h1, rfl⟩
  · have h3 : 2 ^ n ≤ e * 2 ^ n := Nat.le_mul_of_pos_left _ he
    omega
theorem xor_small {w e n : Nat} (hw : w < 2 ^ n) (he : e < 256) : w ^^^ (e * 2 ^ n) < 2 ^ (n + 8) := by
  refine Nat.xor_lt_two_pow ?_ ?_
  · exact Nat.lt_of_lt_of_le hw (Nat.pow_le_pow_right (by omega) (by omega))
  · rw [Nat.pow_add, Nat.mul_comm]
    exact Nat.mul_lt_mul_of_pos_left he (Nat.pow_pos (by omega))
/-- Up to four bytes that differ, behind equal ones: the registers differ. -/
theorem dif_short : ∀ (es : List Nat) (n w : Nat), n + 8 * es.length ≤ 32 → w < 2 ^ n → (∀ e ∈ es, e < 256) → dif (ticks n w) es = 0 → w = 0 ∧ ∀ e ∈ es, e = 0 := by
  intro es
  induction es with
  | nil =>
    intro n w hn hw _ h0
    have h32 : 2 ^ n ≤ 2 ^ 32 := Nat.pow_le_pow_right (by omega) (by simpa using hn)
    exact ⟨ticks_zero n w (by omega) h0, fun e he => by cases he⟩
  | cons e es ih =>
    intro n w hn hw he h0
    simp only [List.length_cons] at hn
    have h1 : ticks 8 (ticks n w ^^^ e) = ticks (n + 8) (w ^^^ (e * 2 ^ n)) := by
      rw [ticks_add, ticks_xor n, ticks_shift]
    rw [dif_cons, h1] at h0
    obtain ⟨h2, h3⟩ := ih (n + 8) (w ^^^ (e * 2 ^ n)) (by omega) (xor_small hw (he e (by simp))) (fun x hx => he x (by simp [hx])) h0
    obtain ⟨h4, h5⟩ := xor_apart hw h2
    exact ⟨h4, fun x hx => by
      rcases List.mem_cons.1 hx with rfl | hx
      · exact h5
      · exact h3 x hx⟩
/-- A change of up to four bytes in a row changes the sum. -/
theorem crc_told {pre a b post : List Nat} (hl : a.length = b.length) (h4 : a.length ≤ 4) (ha : ∀ x ∈ a, x < 256) (hb : ∀ x ∈ b, x < 256) (r : Nat)
    (h : crc r (pre ++ a ++ post) = crc r (pre ++ b ++ post)) : a = b := by
  have hz : ∀ l : List Nat, List.zipWith (· ^^^ ·) l l = List.replicate l.length 0 := by
    intro l
    induction l with
    | nil => rfl
    | cons x l ih => rw [List.zipWith_cons_cons, ih, Nat.xor_self]; rfl
  have hd : crc r (pre ++ a ++ post) ^^^ crc r (pre ++ b ++ post) = 0 := by rw [h, Nat.xor_self]
  rw [crc_append, crc_append, crc_append, crc_append] at hd
  rw [crc_dif post post _ _ rfl, crc_dif a b _ _ hl, Nat.xor_self, hz] at hd
  have hes : ∀ e ∈ List.zipWith (· ^^^ ·) a b, e < 256 := by
    intro e he
    rw [List.mem_iff_getElem?] at he
    obtain ⟨i, hi⟩ := he
    rw [List.getElem?_zipWith] at hi
    rcases hai : a[i]? with _ | x
    · rw [hai] at hi; simp at hi
    · rcases hbi : b[i]? with _ | y
      · rw [hai, hbi] at hi; simp at hi
      · rw [hai, hbi] at hi
        simp at hi
        subst hi
        exact Nat.xor_lt_two_pow (n := 8) (ha x (List.mem_of_getElem? hai)) (hb y (List.mem_of_getElem? hbi))
  have h0 := dif_zeros _ _ (dif_lt _ _ (by omega) hes) hd
  obtain ⟨_, h2⟩ := dif_short (List.zipWith (· ^^^ ·) a b) 0 0 (by simp; omega) (by simp) hes h0
  apply List.ext_getElem hl
  intro i h1 h3
  have h4 := h2 (a[i] ^^^ b[i]) (by
    rw [List.mem_iff_getElem?]
    exact ⟨i, by rw [List.getElem?_zipWith, List.getElem?_eq_getElem h1, List.getElem?_eq_getElem h3]⟩)
  have h5 := congrArg (· ^^^ b[i]) h4
  simpa [Nat.xor_assoc] using h5
end Fr
end Go.Proofs.YtekleamkpfeifaaDoor
