/-
  PLAIN: bytes that are changed by exclusive or, up to four in a row; a frame so changed is no frame.
-/
import Derived.Test.YtpcmkjmkaggfbaaDoorFrameFirsts
namespace Go.Proofs.YtpcmkjmkaggfbaaDoor
namespace Fr
/-- Two bytes, by exclusive or. -/
def xorB (x y : Int) : Int := ((x.toNat ^^^ y.toNat : Nat) : Int)
/-- The bytes xs, changed by ws from the k-th on. -/
def spoilt (xs : List Int) (k : Nat) : List Int → List Int
  | [] => xs
  | w :: ws => spoilt (xs.set k (xorB (xs.getD k 0) w)) (k + 1) ws
theorem spoilt_snoc : ∀ (ws : List Int) (xs : List Int) (k : Nat) (w : Int), spoilt xs k (ws ++ [w]) = (spoilt xs k ws).set (k + ws.length) (xorB ((spoilt xs k ws).getD (k + ws.length) 0) w) := by
  intro ws
  induction ws with
  | nil => intro xs k w; rfl
  | cons a ws ih =>
    intro xs k w
    show spoilt (xs.set k (xorB (xs.getD k 0) a)) (k + 1) (ws ++ [w]) = _
    rw [ih]
    show _ = (spoilt (xs.set k (xorB (xs.getD k 0) a)) (k + 1) ws).set (k + (ws.length + 1)) _
    rw [show k + 1 + ws.length = k + (ws.length + 1) by omega]
    rfl
theorem spoilt_len : ∀ (ws xs : List Int) (k : Nat), (spoilt xs k ws).length = xs.length := by
  intro ws
  induction ws with
  | nil => intro xs k; rfl
  | cons a ws ih => intro xs k; show (spoilt _ _ ws).length = _; rw [ih]; simp
/-- What it is, part by part. -/
theorem spoilt_parts : ∀ (ws xs : List Int) (k : Nat), k + ws.length ≤ xs.length → spoilt xs k ws = xs.take k ++ List.zipWith xorB (xs.drop k) ws ++ xs.drop (k + ws.length) := by
  intro ws
  induction ws with
  | nil => intro xs k _; simp [spoilt]
  | cons a ws ih =>
    intro xs k h
    simp only [List.length_cons] at h
    show spoilt (xs.set k (xorB (xs.getD k 0) a)) (k + 1) ws = _
    rw [ih _ _ (by simp; omega)]
    have hk : k < xs.length := by omega
    rw [List.drop_eq_getElem_cons hk, List.zipWith_cons_cons]
    have h1 : (xs.set k (xorB (xs.getD k 0) a)).take (k + 1) = xs.take k ++ [xorB xs[k] a] := by
      rw [List.take_add_one, List.getElem?_set_self (by omega), List.take_set_of_le (by omega)]
      simp [List.getD_eq_getElem?_getD, List.getElem?_eq_getElem hk]
    rw [h1, List.drop_set_of_lt (by omega), List.drop_set_of_lt (by omega), List.length_cons, show k + 1 + ws.length = k + (ws.length + 1) by omega]
    simp
theorem xorB_byte {x y : Int} (hx : 0 ≤ x ∧ x ≤ 255) (hy : 0 ≤ y ∧ y ≤ 255) : 0 ≤ xorB x y ∧ xorB x y ≤ 255 := by
  unfold xorB
  have h : x.toNat ^^^ y.toNat < 2 ^ 8 := Nat.xor_lt_two_pow (by omega) (by omega)
  omega
theorem xorB_self {x y : Int} (hx : 0 ≤ x) (hy : 0 ≤ y) (h : xorB x y = x) : y = 0 := by
  unfold xorB at h
  have h1 : x.toNat ^^^ y.toNat = x.toNat := by omega
  have h2 := congrArg (x.toNat ^^^ ·) h1
  simp only [← Nat.xor_assoc, Nat.xor_self, Nat.zero_xor] at h2
  omega
theorem xorB_zero {x : Int} (hx : 0 ≤ x) : xorB x 0 = x := by unfold xorB; simp; omega
theorem zip_same : ∀ (a ws : List Int), (∀ x ∈ a, 0 ≤ x) → (∀ x ∈ ws, 0 ≤ x) → ws.length ≤ a.length → List.zipWith xorB a ws = a.take ws.length → ∀ x ∈ ws, x = 0 := by
  intro a
  induction a with
  | nil => intro ws _ _ hl _ x hx; cases ws with
    | nil => cases hx
    | cons y ws => simp at hl
  | cons b a ih =>
    intro ws ha hw hl h x hx
    cases ws with
    | nil => cases hx
    | cons y ws =>
      rw [List.zipWith_cons_cons, List.length_cons, List.take_succ_cons, List.cons.injEq] at h
      rcases List.mem_cons.1 hx with rfl | hx
      · exact xorB_self (ha b (by simp)) (hw x (by simp)) h.1
      · exact ih ws (fun z hz => ha z (by simp [hz])) (fun z hz => hw z (by simp [hz])) (by simpa using hl) h.2 x hx
theorem nats_append (a b : List Int) : nats (a ++ b) = nats a ++ nats b := by unfold nats; simp
theorem nats_inj : ∀ {a b : List Int}, (∀ x ∈ a, 0 ≤ x) → (∀ x ∈ b, 0 ≤ x) → nats a = nats b → a = b := by
  intro a
  induction a with
  | nil => intro b _ _ h; cases b with
    | nil => rfl
    | cons y b => simp [nats] at h
  | cons x a ih =>
    intro b ha hb h
    cases b with
    | nil => simp [nats] at h
    | cons y b =>
      simp only [nats, List.map_cons, List.cons.injEq] at h
      have h0 := ha x (by simp)
      have h1 := hb y (by simp)
      rw [show x = y by omega, ih (fun z hz => ha z (by simp [hz])) (fun z hz => hb z (by simp [hz])) h.2]
theorem nats_bytes {a : List Int} (h : ByteList a) : ∀ x ∈ nats a, x < 256 := by
  intro x hx
  unfold nats at hx
  obtain ⟨y, hy, rfl⟩ := List.mem_map.1 hx
  have := h y hy
  omega
theorem crc_sum_inj {a b : List Nat} (ha : ∀ x ∈ a, x < 256) (hb : ∀ x ∈ b, x < 256) (h : sumOf a = sumOf b) : crc 4294967295 a = crc 4294967295 b := by
  unfold sumOf at h
  have h1 := crc_lt a 4294967295 (by omega) ha
  have h2 := crc_lt b 4294967295 (by omega) hb
  omega
theorem be4_inj {a b : Nat} (ha : a < 4294967296) (hb : b < 4294967296) (h : be4 a = be4 b) : a = b := by
  simp only [be4, List.cons.injEq, and_true] at h
  omega
theorem zip_bytes : ∀ {a ws : List Int}, ByteList a → ByteList ws → ByteList (List.zipWith xorB a ws) := by
  intro a
  induction a with
  | nil => intro ws _ _ x hx; simp at hx
  | cons b a ih =>
    intro ws ha hw x hx
    cases ws with
    | nil => simp at hx
    | cons y ws =>
      rw [List.zipWith_cons_cons] at hx
      rcases List.mem_cons.1 hx with rfl | hx
      · exact xorB_byte (ha b (by simp)) (hw y (by simp))
      · exact ih (fun z hz => ha z (by simp [hz])) (fun z hz => hw z (by simp [hz])) x hx
theorem spoilt_bytes {xs ws : List Int} {k : Nat} (h : k + ws.length ≤ xs.length) (hx : ByteList xs) (hw : ByteList ws) : ByteList (spoilt xs k ws) := by
  rw [spoilt_parts ws xs k h]
  exact ((hx.take k).append (zip_bytes (hx.drop k) hw)).append (hx.drop _)
/-- A payload that was changed in up to four bytes in a row has another sum, unless nothing was changed. -/
theorem spoilt_sum {xs ws : List Int} {k : Nat} {pre : List Int} (h : k + ws.length ≤ xs.length) (h4 : ws.length ≤ 4) (hp : ByteList pre) (hx : ByteList xs) (hw : ByteList ws)
    (hs : sumOf (nats (pre ++ xs)) = sumOf (nats (pre ++ spoilt xs k ws))) : ∀ w ∈ ws, w = 0 := by
  have h1 := crc_sum_inj (nats_bytes (hp.append hx)) (nats_bytes (hp.append (spoilt_bytes h hx hw))) hs
  rw [spoilt_parts ws xs k h] at h1
  have h2 : xs = xs.take k ++ (xs.drop k).take ws.length ++ xs.drop (k + ws.length) := by
    rw [List.append_assoc, ← List.drop_drop, List.take_append_drop, List.take_append_drop]
  have h3 : pre ++ xs = (pre ++ xs.take k) ++ (xs.drop k).take ws.length ++ xs.drop (k + ws.length) := by
    rw [List.append_assoc, List.append_assoc, ← List.append_assoc (xs.take k), ← h2]
  rw [h3, ← List.append_assoc, ← List.append_assoc] at h1
  rw [nats_append, nats_append (_ ++ _), nats_append (_ ++ _ ++ _), nats_append (pre ++ xs.take k) (List.zipWith _ _ _)] at h1
  have h5 := crc_told (by simp [nats]; omega) (by simp [nats]; omega) (nats_bytes ((hx.drop k).take _)) (nats_bytes (zip_bytes (hx.drop k) hw)) 4294967295 h1
  have h6 := nats_inj (fun x hx' => ((hx.drop k).take _ x hx').1) (fun x hx' => (zip_bytes (hx.drop k) hw x hx').1) h5
  exact zip_same (xs.drop k) ws (fun x hx' => (hx.drop k x hx').1) (fun x hx' => (hw x hx').1) (by simp; omega) h6.symm
theorem spoilt_none : ∀ (ws xs : List Int) (k : Nat), ByteList xs → (∀ w ∈ ws, w = 0) → spoilt xs k ws = xs := by
  intro ws
  induction ws with
  | nil => intro xs k _ _; rfl
  | cons a ws ih =>
    intro xs k hx hw
    have ha := hw a (by simp)
    subst ha
    have h1 : xs.set k (xorB (xs.getD k 0) 0) = xs := by
      rw [xorB_zero (by
        rw [List.getD_eq_getElem?_getD]
        cases hk : xs[k]? with
        | none => simp
        | some x => simpa using (hx x (List.mem_of_getElem? hk)).1)]
      by_cases hk : k < xs.length
      · rw [List.getD_eq_getElem?_getD, List.getElem?_eq_getElem hk]; simp
      · rw [List.set_eq_of_length_le (by omega)]
    show spoilt (xs.set k (xorB (xs.getD k 0) 0)) (k + 1) ws = xs
    rw [h1]
    exact ih xs (k + 1) hx (fun w hw' => hw w (by simp [hw']))
/-- The head of a frame, then other bytes: the first frame of it. -/
theorem first_other {xs ys : List Int} (hl : ys.length = xs.length) (h1 : xs.length ≤ 131072) : firstOf (be4 xs.length ++ be4 (sumOf (nats (be4 xs.length ++ xs))) ++ ys) = if sumOf (nats (be4 xs.length ++ xs)) = sumOf (nats (be4 xs.length ++ ys)) then some ys else none := by
  obtain ⟨s, hs⟩ : ∃ s, s = sumOf (nats (be4 xs.length ++ xs)) := ⟨_, rfl⟩
  rw [← hs]
  have hn : numB (be4 xs.length ++ be4 s ++ ys) = xs.length := by
    unfold numB be4
    simp only [List.cons_append, List.nil_append, List.getD_cons_zero, List.getD_cons_succ]
    omega
  have hlen : (be4 xs.length ++ be4 s ++ ys).length = 8 + xs.length := by simp [be4_len, hl]; omega
  have hd : (be4 xs.length ++ be4 s ++ ys).drop 8 = ys := by
    rw [List.drop_append_of_le_length (by simp [be4_len])]
    simp [be4_len]
  unfold firstOf
  rw [if_neg (by omega), hn, hd, Int.toNat_natCast, if_neg (by omega), List.take_of_length_le (by omega), List.take_of_length_le (by omega)]
  have hf : frameOf ys = be4 xs.length ++ be4 (sumOf (nats (be4 xs.length ++ ys))) ++ ys := by rw [frameOf, hl]
  rw [hf]
  by_cases h : s = sumOf (nats (be4 xs.length ++ ys))
  · rw [if_pos h, ← h, if_pos rfl]
  · rw [if_neg h, if_neg]
    intro he
    have h2 := List.append_cancel_right he
    have h3 := List.append_cancel_left h2
    exact h (be4_inj (by rw [hs]; exact sumOf_lt _) (sumOf_lt _) h3.symm)
end Fr
end Go.Proofs.YtpcmkjmkaggfbaaDoor
