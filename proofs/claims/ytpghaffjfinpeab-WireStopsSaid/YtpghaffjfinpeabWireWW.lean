/-
  A wire.writer in a walk: its state, its blocks, none of them below b; the contracts of the Writer's methods in these words.
-/
import Derived.Test.YtpghaffjfinpeabWireAmt
import Derived.Test.YtpghaffjfinpeabWireDat
import Derived.Deep.RegionHeld3
namespace Go.Proofs.Ytpghaffjfinpeab
namespace Wi
open Go.RowKit Pk Am
theorem WObj.mem {t : Bool} {w : World} {p : Nat} {fp : List Nat} {s : WSt} {m : Nat} (h : WObj t w p fp s m) : p ∈ fp := by
  cases s with
  | bad e => obtain ⟨rfl, _⟩ := h; simp
  | ok bs =>
    obtain ⟨_, ⟨_, rfl, _⟩ | ⟨v, q, rfl, _⟩⟩ := h
    · simp
    · simp
theorem WObj.blk {t : Bool} {w : World} {p : Nat} {fp : List Nat} {s : WSt} {m : Nat} (h : WObj t w p fp s m) : ∃ c0 c1 c2, w.heap[p]? = some (.cells #[c0, c1, c2, .bool t] 54 (0, 0)) := by
  cases s with
  | bad e => obtain ⟨_, _, h⟩ := h; exact ⟨_, _, _, h⟩
  | ok bs =>
    obtain ⟨_, ⟨_, _, h⟩ | ⟨v, q, _, h, _⟩⟩ := h
    · exact ⟨_, _, _, h⟩
    · exact ⟨_, _, _, h⟩
theorem WObj.long {t : Bool} {w : World} {p : Nat} {fp : List Nat} {s : WSt} {m : Nat} (h : WObj t w p fp s m) : WObj true (w.setCell ⟨p, 3, none⟩ (.bool true)) p fp s m := by
  cases s with
  | bad e =>
    obtain ⟨h1, h2, h⟩ := h
    exact ⟨h1, h2, by rw [heap_setCell_same w p 3 _ _ _ h]; rfl⟩
  | ok bs =>
    obtain ⟨h0, ⟨h1, h2, h⟩ | ⟨v, q, h1, h, h2, h3, h4, h5, h6⟩⟩ := h
    · exact ⟨h0, .inl ⟨h1, h2, by rw [heap_setCell_same w p 3 _ _ _ h]; rfl⟩⟩
    · exact ⟨h0, .inr ⟨v, q, h1, by rw [heap_setCell_same w p 3 _ _ _ h]; rfl, by rw [Below.heap_setCell _ _ _ q (by exact h4)]; exact h2, ownsRow_setCell_other h3 (a := ⟨p, 3, none⟩) h5 _, h4, h5, h6⟩⟩
/-- At block p stands a wire.writer in the state x that keeps at most m bytes; its blocks fp lie from b on. -/
structure WW (b : Nat) (w : World) (p : Nat) (fp : List Nat) (x : Ws) (m : Nat) : Prop where
  obj : WObj x.t w p fp x.s m
  far : ∀ k ∈ fp, b ≤ k
/-- The wire.writer at p answers nothing, and is then in the state x. -/
def Puts (b p : Nat) (fp : List Nat) (x : Ws) (m : Nat) (w : World) (r : Ending) (w' : World) : Prop :=
  r = .returned (.tuple #[]) ∧ ∃ fp', WW b w' p fp' x m ∧ Step w w' fp fp'
theorem WW.size {b : Nat} {w : World} {p : Nat} {fp : List Nat} {x : Ws} {m : Nat} (h : WW b w p fp x m) : b ≤ w.heap.size :=
  Nat.le_of_lt (Nat.lt_of_le_of_lt (h.far p h.obj.mem) (h.obj.lt p h.obj.mem))
theorem WW.stays {b : Nat} {w w' : World} {p : Nat} {fp : List Nat} {x : Ws} {m : Nat} (h : WW b w p fp x m) (hk : ∀ k ∈ fp, w'.heap[k]? = w.heap[k]?) : WW b w' p fp x m := ⟨h.obj.stays hk, h.far⟩
theorem WW.more {b : Nat} {w : World} {p : Nat} {fp : List Nat} {x : Ws} {m m' : Nat} (h : WW b w p fp x m) (hm : m ≤ m') : WW b w p fp x m' := ⟨h.obj.more hm, h.far⟩
theorem WW.alloc {b : Nat} {w : World} {p : Nat} {fp : List Nat} {x : Ws} {m : Nat} (h : WW b w p fp x m) (o : Obj) : WW b (w.alloc o) p fp x m := h.stays fun k hk => Below.heap_alloc w o k (h.obj.lt k hk)
theorem WW.below {b : Nat} {w w' : World} {p : Nat} {fp fp' : List Nat} {x : Ws} {m : Nat} (h : WW b w p fp x m) (hS : Step w w' fp fp') : Below b w w' := hS.1.below h.size h.far
theorem Puts.of {b p : Nat} {fp : List Nat} {x : Ws} {m m' : Nat} {w : World} (h : WW b w p fp x m) {x' : Ws} {r : Ending} {w' : World} (ht : x'.t = x.t) (hW : Wrote (WObj x.t) p fp x'.s m' w r w') : Puts b p fp x' m' w r w' := by
  obtain ⟨hr, fp', hO, hS⟩ := hW
  refine ⟨hr, fp', ⟨ht ▸ hO, fun k hk => ?_⟩, hS⟩
  rcases hS.2 k hk with hk | hk
  · exact h.far k hk
  · exact Nat.le_trans h.size hk
/-- A block beside the writer's, in a walk. -/
structure Bx (w : World) (g : Nat) (cs : Array Value) (T : TypeId) (fp : List Nat) : Prop where
  block : w.heap[g]? = some (.cells cs T (0, 0))
  apart : g ∉ fp
theorem Bx.step {w w' : World} {g : Nat} {cs : Array Value} {T : TypeId} {fp fp' : List Nat} (h : Bx w g cs T fp) (hS : Step w w' fp fp') : Bx w' g cs T fp' := by
  have hlt := lt_of_block h.block
  refine ⟨(hS.1.block g hlt h.apart).trans h.block, fun hm => ?_⟩
  rcases hS.2 g hm with hk | hk
  · exact h.apart hk
  · omega
theorem Bx.new {b : Nat} {w : World} {p : Nat} {fp : List Nat} {x : Ws} {m : Nat} (h : WW b w p fp x m) (cs : Array Value) (T : TypeId) : Bx (w.alloc (.cells cs T)) w.heap.size cs T fp :=
  ⟨heap_alloc_new w _, fun hm => by have := h.obj.lt _ hm; omega⟩
theorem Bx.alloc {w : World} {g : Nat} {cs : Array Value} {T : TypeId} {fp : List Nat} (h : Bx w g cs T fp) (o : Obj) : Bx (w.alloc o) g cs T fp :=
  ⟨(Below.heap_alloc w o g (lt_of_block h.block)).trans h.block, h.apart⟩
theorem Bx.cell {w : World} {g : Nat} {cs : Array Value} {T : TypeId} {fp : List Nat} (h : Bx w g cs T fp) (j : Nat) {v : Value} (hv : cs[j]? = some v) : w.cell? ⟨g, j, none⟩ = some v := cell_at h.block j hv

theorem Holds.stays_in {b : Nat} {w w' : World} {p : Nat} {fp fp' : List Nat} {x : Ws} {m : Nat} {K : Kind} {v : Value} {d : Dat} (h : WW b w p fp x m) (hS : Step w w' fp fp') (hh : Holds w b K v d) : Holds w' b K v d := hh.below h.size (h.below hS)
theorem HoldsAll.stays_in {b : Nat} {w w' : World} {p : Nat} {fp fp' : List Nat} {x : Ws} {m : Nat} {K : List Kind} {v : List Value} {d : List Dat} (h : WW b w p fp x m) (hS : Step w w' fp fp') (hh : HoldsAll w b K v d) : HoldsAll w' b K v d := hh.below h.size (h.below hS)
theorem Holds.alike {w w' : World} {b : Nat} {K : Kind} {v : Value} {d : Dat} (h : Holds w b K v d) (hb : b ≤ w.heap.size) (e : w'.heap = w.heap) : Holds w' b K v d := Holds.stays hb (fun k _ => by rw [e]) K v d h
theorem p_uint (b p : Nat) (fp : List Nat) (x : Ws) (m v : Nat) (w : World) (hW : WW b w p fp x m) (hv : v < 18446744073709551616) (hm : m ≤ 35184372088832) :
    Calls Try.prog 25 #[.pointer (some ⟨p, 0, none⟩), .int .u64 v] w (Puts b p fp (x.put (enc v)) (m + 10) w) :=
  (wuint_any p fp x.s m v w hW.obj hv (by omega)).mono fun _ _ h => Puts.of hW rfl h
theorem p_int (b p : Nat) (fp : List Nat) (x : Ws) (m : Nat) (n : Int) (w : World) (hW : WW b w p fp x m) (h0 : -9223372036854775808 ≤ n ∧ n ≤ 9223372036854775807) (hm : m ≤ 35184372088832) :
    Calls Try.prog 14 #[.pointer (some ⟨p, 0, none⟩), .int .i64 n] w (Puts b p fp (wrD (.num n) x) (m + 10) w) :=
  (wint_any p fp x.s m n w hW.obj h0.1 h0.2 hm).mono fun _ _ h => Puts.of hW (by rw [wrD]; rfl) (by rw [wrD]; exact h)
theorem p_mark (b p : Nat) (fp : List Nat) (x : Ws) (m : Nat) (c : Bool) (w : World) (hW : WW b w p fp x m) (hm : m ≤ 35184372088832) :
    Calls Try.prog 17 #[.pointer (some ⟨p, 0, none⟩), .bool c] w (Puts b p fp (wrD (.mark c) x) (m + 10) w) :=
  (wmark_any p fp x.s m c w hW.obj hm).mono fun _ _ h => Puts.of hW (by rw [wrD]; rfl) (by rw [wrD]; exact h)
theorem p_amount (b p : Nat) (fp : List Nat) (x : Ws) (m n l : Nat) (w : World) (hW : WW b w p fp x m) (hn : n ≤ 1048576) (hl : l ≤ 1048576) (hm : m ≤ 35184372088832) :
    Calls Try.prog 26 #[.pointer (some ⟨p, 0, none⟩), amt n l] w (Puts b p fp (wrD (.amt n l) x) (m + 20) w) :=
  (wamount_any p fp x.s m n l w hW.obj hn hl hm).mono fun _ _ h => Puts.of hW (by rw [wrD]; rfl) (by rw [wrD]; exact h)

theorem p_amountv (b p : Nat) (fp : List Nat) (x : Ws) (m n l : Nat) (a : Value) (w : World) (ha : a = amt n l) (hW : WW b w p fp x m) (hn : n ≤ 1048576) (hl : l ≤ 1048576) (hm : m ≤ 35184372088832) :
    Calls Try.prog 26 #[.pointer (some ⟨p, 0, none⟩), a] w (Puts b p fp (wrD (.amt n l) x) (m + 20) w) := by
  subst ha
  exact p_amount b p fp x m n l w hW hn hl hm
/-- A whole number of 64 bits. -/
def I64 (n : Int) : Prop := -9223372036854775808 ≤ n ∧ n ≤ 9223372036854775807
def nums (l : List Int) : List Dat := l.map .num
theorem nums_take {l : List Int} {k : Nat} {z : Int} (h : l[k]? = some z) (x : Ws) : wrs (nums (l.take (k + 1))) x = wrD (.num z) (wrs (nums (l.take k)) x) := by
  rw [List.take_add_one, h]
  simp only [nums, List.map_append, wrs_append, Option.toList, List.map_cons, List.map_nil, wrs]
set_option maxRecDepth 100000 in
set_option maxHeartbeats 1000000 in
theorem p_ints (b p : Nat) (fp : List Nat) (x : Ws) (m : Nat) (A : Option Addr) (n c : Nat) (l : List Int) (w : World) (hW : WW b w p fp x m) (hA : NRow .i64 w A l) (hl : l.length = n) (hr : ∀ z ∈ l, I64 z) (hf : ∀ k ∈ rowX A l, k ∉ fp) (hn : n ≤ 1000) (hm : m + 10 * n ≤ 35184372000000) :
    Calls Try.prog 16 #[.pointer (some ⟨p, 0, none⟩), .slice A n c] w (Puts b p fp (wrs (nums l) x) (m + 10 * n) w) := by
  have HR := Lib.hid hr
  have HF := Lib.hid hf
  have HA := Lib.hid hA
  have HL := Lib.hid hl
  clear hr hf hA hl
  go_enter Try.func16, Try.ntmps16
  go_wp2
  go_loopw [8] (fun i W => ∃ (k : Nat) (cur : Ws) (fq : List Nat), i = .int .i64 k ∧ k ≤ n ∧ Hid (cur = wrs (nums (l.take k)) x) ∧ WW b W p fq cur (m + 10 * k) ∧ Step w W fp fq) (fun i _ => n - (intOf i).toNat)
  case atStart => exact ⟨0, x, fp, rfl, Nat.zero_le _, by show _ = _; rw [List.take_zero]; rfl, hW, Step.refl _ _⟩
  case round =>
    obtain ⟨k, cur, fq, rfl, hk, H, hO, hS⟩ := hrel
    have HS := Lib.hid hS
    have HO := Lib.hid hO
    clear hW hS hO
    by_cases hlt : k < n
    · obtain ⟨z, hz⟩ : ∃ z, l[k]? = some z := ⟨l[k]'(by rw [HL.out]; exact hlt), List.getElem?_eq_getElem _⟩
      have HN := Lib.hid ((congrArg (wrD (.num z)) H.out).trans (nums_take hz x).symm)
      have HZ := Lib.hid (HR.out z (List.mem_of_getElem? hz))
      obtain ⟨g, off, rfl, hc⟩ := nrowx_moved HA.out HS.out.1 HF.out k z hz
      clear hz H
      go_wp2_with (go_at_call 14; refine (p_int b p fq cur (m + 10 * k) z _ (by exact HO.out) HZ.out (by omega)).mono ?_; rintro e1 w1 ⟨rfl, fq1, hO1, hS1⟩; have HO1 := Lib.hid hO1; have HS1 := Lib.hid hS1; clear hO1 hS1)
      go_roundw
      case rel => exact ⟨k + 1, _, fq1, by go_num, by omega, HN.out, HO1.out, HS.out.trans HS1.out⟩
      case measure => simp [intOf]; omega
    · obtain rfl : k = n := by omega
      go_wp2
      go_end0
      refine ⟨rfl, fq, ?_, HS.out⟩
      have h := HO.out
      rw [H.out, ← HL.out, List.take_length] at h
      rw [← HL.out]
      exact h
end Wi
end Go.Proofs.Ytpghaffjfinpeab
