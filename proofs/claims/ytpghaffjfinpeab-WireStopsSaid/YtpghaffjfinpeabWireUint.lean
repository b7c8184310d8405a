/-
  (The Writer within a wire.writer, whose mark is t.)
  CONTRACTS of (*pack.Writer).Uint, Bytes; of the statements' helper wakes.
-/
import Derived.Test.YtpghaffjfinpeabWirePut
namespace Go.Proofs.Ytpghaffjfinpeab
namespace Wi
open Go.RowKit Pk
variable {t : Bool}
theorem wrap_nat {n : Nat} (h : n < 18446744073709551616) : IntKind.u64.wrap (n : Int) = n := by
  unfold IntKind.wrap; simp [IntKind.signed, IntKind.bits]; omega
/-- v fits into 64 bits. -/
def U64 (v : Nat) : Prop := v < 18446744073709551616
theorem or_128 (n : Nat) : bits BinOp.or IntKind.u8 ((n : Int) % 256) 128 = ((n % 128 + 128 : Nat) : Int) := by
  have h : ∀ m, m < 256 → bits BinOp.or IntKind.u8 (Int.ofNat m) 128 = Int.ofNat (m % 128 + 128) := by decide +kernel
  have h1 := h (n % 256) (Nat.mod_lt _ (by omega))
  rw [show ((n : Int) % 256) = Int.ofNat (n % 256) by show _ = ((n % 256 : Nat) : Int); omega, h1, show n % 256 % 128 = n % 128 by omega]; rfl
theorem u64_div {n : Nat} (h : U64 n) : U64 (n / 128) := by unfold U64 at *; omega
theorem wrap_u64_div {n : Nat} (h : U64 n) : IntKind.u64.wrap ((n : Int) / 128) = ((n / 128 : Nat) : Int) := by
  rw [show ((n : Int) / 128) = ((n / 128 : Nat) : Int) by omega]; exact wrap_nat (by unfold U64 at *; omega)
/-- A lent row of one byte. -/
theorem lit_handed {w : World} {p m : Nat} {fp : List Nat} {s : WSt} (h : WObj t w p fp s m) (x : Int) : Handed (w.alloc (.cells #[.int .u8 x] 5)) fp (some ⟨w.heap.size, 0, none⟩) 1 1 [x] :=
  ⟨nrow_lit .u8 w x _, rfl, fun h => (by cases h), fun k hk hf => by
    have := h.lt k hf
    have : k = w.heap.size := by simpa [rowX, eq_comm] using hk
    omega⟩
theorem WObj.alloc {w : World} {p m : Nat} {fp : List Nat} {s : WSt} (h : WObj t w p fp s m) (o : Obj) : WObj t (w.alloc o) p fp s m := h.stays (fun k hk => Below.heap_alloc w o k (h.lt k hk))
theorem put_end {s cur : WSt} {v n : Nat} (H : s.put (enc v) = cur.put (enc n)) (h : n < 128) : s.put (enc v) = cur.put [(n : Int)] := by rw [H, enc_low h]
theorem put_put (s : WSt) (a b : List Int) : (s.put a).put b = s.put (a ++ b) := by cases s <;> simp [WSt.put]
theorem put_go {s cur : WSt} {v n : Nat} (H : s.put (enc v) = cur.put (enc n)) (h : 128 ≤ n) : s.put (enc v) = (cur.put [((n % 128 + 128 : Nat) : Int)]).put (enc (n / 128)) := by
  rw [H, enc_high h, put_put]; rfl
set_option maxRecDepth 100000 in
set_option maxHeartbeats 2000000 in
theorem wuint_any (p : Nat) (fp : List Nat) (s : WSt) (m v : Nat) (w : World) (hW : WObj t w p fp s m) (hv : v < 18446744073709551616) (hm : m ≤ 35184372088832 + 131072) :
    Calls Try.prog 25 #[.pointer (some ⟨p, 0, none⟩), .int .u64 v] w (Wrote (WObj t) p fp (s.put (enc v)) (m + 10) w) := by
  have hv : U64 v := hv
  have hten : (enc v).length ≤ 10 := enc_ten hv
  have HTEN := Lib.hid hten
  clear hten
  go_enter Try.func25, Try.ntmps25
  go_wp2
  go_loopw [1] (fun x wr => ∃ (n k : Nat) (cur : WSt) (fq : List Nat), x = .int .u64 n ∧ U64 n ∧ Hid (k + (enc n).length = (enc v).length) ∧ WObj t wr p fq cur (m + k) ∧ Step w wr fp fq ∧ Hid (s.put (enc v) = cur.put (enc n))) (fun x _ => (intOf x).toNat)
  case atStart => exact ⟨v, 0, s, fp, rfl, hv, Nat.zero_add _, hW, Step.refl _ _, rfl⟩
  case round =>
    obtain ⟨n, k, cur, fq, rfl, hn, HK, hO, hS, H⟩ := hrel
    have hk10 : k ≤ 9 := by have := HK.out; have := HTEN.out; have := enc_len_pos n; omega
    have HN := Lib.hid hn
    have HS := Lib.hid hS
    have HO := Lib.hid hO
    clear hW hn hS hO
    by_cases hlt : n < 128
    · have HE := Lib.hid (put_end H.out hlt)
      clear H
      go_wp2_with (go_at_call 39; refine (wput_any p fq cur (m + k) _ _ _ [(n : Int)] _ (HO.out.alloc _) (lit_handed HO.out _) (by omega)).mono ?_; rintro e1 w1 ⟨rfl, fq1, hO1, hS1⟩; have HO1 := Lib.hid hO1; have HS1 := Lib.hid hS1; clear hO1 hS1)
      go_end0
      exact ⟨rfl, fq1, by rw [HE.out]; exact HO1.out.more (by omega), HS.out.trans ((step_alloc _ _ _).trans HS1.out)⟩
    · have hor := or_128 n
      have HE := Lib.hid (put_go H.out (by omega))
      have HN2 := Lib.hid (u64_div HN.out)
      have HK2 := Lib.hid (show (k + 1) + (enc (n / 128)).length = (enc v).length by have h1 := HK.out; rw [enc_high (by omega)] at h1; simp only [List.length_cons] at h1; omega)
      clear H
      go_wp2_with (go_at_call 39; refine (wput_any p fq cur (m + k) _ _ _ [((n % 128 + 128 : Nat) : Int)] _ (HO.out.alloc _) (lit_handed HO.out _) (by omega)).mono ?_; rintro e1 w1 ⟨rfl, fq1, hO1, hS1⟩; have HO1 := Lib.hid hO1; have HS1 := Lib.hid hS1; clear hO1 hS1)
      go_roundw
      case rel => exact ⟨n / 128, k + 1, _, fq1, by go_num, HN2.out, HK2.out, HO1.out, HS.out.trans ((step_alloc _ _ _).trans HS1.out), HE⟩
      case measure => simp [intOf]; omega
set_option maxRecDepth 100000 in
set_option maxHeartbeats 1000000 in
theorem wbytes_any (p : Nat) (fp : List Nat) (s : WSt) (m : Nat) (w : World) (hW : WObj t w p fp s m) (hm : m ≤ 35184372088832 + 131082) :
    Calls Try.prog 24 #[.pointer (some ⟨p, 0, none⟩)] w fun r w' => ∃ v, r = .returned (.tuple #[v, .int .i64 s.err]) ∧ w'.ownsRow 0 5 1 v s.out.length (s.out.map (Value.int .u8)) ∧ Step w w' [] (rowOf v) := by
  cases s with
  | bad e =>
    obtain ⟨rfl, he, hp⟩ := hW
    have c1 := cell_at hp 1 (v := .int .i64 e) rfl
    have hd : (e != 0) = true := by simpa using he
    clear hp he
    go_enter Try.func24, Try.ntmps24
    go_wp2
    go_quiet (fail)
    go_wp2
    go_ret2
    exact ⟨.slice none 0 0, rfl, World.ownsRow_nil _ _ _ _, (Moved.refl _ _).drewN _, by simp [rowOf, Value.ownBlock]⟩
  | ok bs =>
    obtain ⟨A, c, r, hp, hA, hc, hb⟩ : ∃ A c r, w.heap[p]? = some (.cells #[.slice A bs.length c, .int .i64 0, r, .bool t] 54 (0, 0)) ∧ NRow .u8 w A bs ∧ (A = none → c = 0) ∧ bs.length ≤ m := by
      obtain ⟨hb, ⟨rfl, rfl, hp⟩ | ⟨v, q, rfl, hp, hq, hr, -⟩⟩ := hW
      · exact ⟨none, 0, _, hp, NRow.none_ _ _ _, fun _ => rfl, hb⟩
      · obtain ⟨A, c, rfl, h1, h2, -⟩ := own_nrow hr
        exact ⟨A, c, _, hp, h1, h2, hb⟩
    have c0 := cell_at hp 0 (v := .slice A bs.length c) rfl
    have c1 := cell_at hp 1 (v := .int .i64 0) rfl
    have HA := Lib.hid hA
    have HC := Lib.hid hc
    clear hp hA hc hW
    go_enter Try.func24, Try.ntmps24
    go_wp2_with fail
    refine (clone_any _ _ _ bs _ HA.out rfl HC.out (by omega)).mono ?_
    rintro e1 w1 ⟨v', rfl, hown, hst⟩
    have HO := Lib.hid hown
    have HST := Lib.hid hst
    clear hown hst
    go_wp2
    go_ret2
    exact ⟨v', rfl, HO.out, HST.out⟩
end Wi
end Go.Proofs.Ytpghaffjfinpeab
