/-
  What the statements' walks ask of the program's Log.
  G w l p fl sn rs m: at block l stands a Log that keeps the Disk at block p and tells the snapshot sn and the records rs, of at most m bytes with their frames; fl are its blocks.
-/
import Derived.Test.YtekleamkpfeifaaDoorLogSt
import Derived.Test.YtekleamkpfeifaaDoorDiskTwo
import Derived.Test.YtekleamkpfeifaaDoorRowLit
import Derived.Test.YtekleamkpfeifaaDoorFrameLd
namespace Go.Proofs.YtekleamkpfeifaaDoor
namespace Lg
open Go.RowKit Dk Fr
/-- New rows of bytes, apart from each other, whatever marks they bear; fr are their blocks. -/
def TRows (w : World) (v : Value) (ps : List (List Int)) (fr : List Nat) : Prop :=
  ∃ (A : Option Addr) (c : Nat) (vs : List Value), v = .slice A ps.length c ∧ VRow w A vs ∧ vs.length = ps.length ∧ (A = none → c = 0) ∧ (ps.length ≤ c ∧ c ≤ 9223372036854775807) ∧
    (∀ (i : Nat) (u : Value) (p : List Int), vs[i]? = some u → ps[i]? = some p → TRow w u p.length p) ∧ (∀ b ∈ rowOf v, b ∈ fr) ∧ (∀ b ∈ partsOf vs, b ∈ fr) ∧ (∀ b ∈ fr, b < w.heap.size) ∧
    (∀ b ∈ rowOf v, b ∉ partsOf vs) ∧ (∀ (i j : Nat) (u x : Value), i ≠ j → vs[i]? = some u → vs[j]? = some x → ∀ k ∈ rowOf u, k ∉ rowOf x)
theorem TRow.bites {w : World} {u : Value} {p : List Int} (h : TRow w u p.length p) : Bites w u p := by
  obtain ⟨A, c, rfl, h1, h2⟩ := t_shape h
  exact ⟨A, c, rfl, h.nrow, h1, h2⟩
theorem bites_row {u : Value} {p : List Int} {b : Nat} (h : b ∈ bitesOf u p) : b ∈ rowOf u := by
  cases u with
  | slice A n c => exact rowX_rowOf h
  | _ => cases h
/-- What such rows read as. -/
theorem TRows.reads {w : World} {v : Value} {ps : List (List Int)} {fr : List Nat} (h : TRows w v ps fr) : ∃ A c vs, v = .slice A ps.length c ∧ BRows w A vs ps ∧ (A = none → c = 0) ∧ (ps.length ≤ c ∧ c ≤ 9223372036854775807) ∧ ∀ b ∈ rowsOf A vs ps, b ∈ fr := by
  obtain ⟨A, c, vs, rfl, hv, hl, hn, hc, he, h1, h2, -⟩ := h
  refine ⟨A, c, vs, rfl, ⟨hv, hl, fun i u p hu hp => TRow.bites (he i u p hu hp)⟩, hn, hc, fun b hb => ?_⟩
  unfold rowsOf at hb
  rcases List.mem_append.1 hb with hb | hb
  · rcases A with _ | a
    · cases hb
    · rcases vs with _ | ⟨u, t⟩
      · cases hb
      · simp at hb
        exact h1 b (by simp [mem_rowOf, Value.ownBlock, hb])
  · obtain ⟨x, hx, hb⟩ := List.mem_flatten.1 hb
    obtain ⟨i, hi, rfl⟩ := List.mem_iff_getElem.1 hx
    rw [List.length_zipWith] at hi
    rw [List.getElem_zipWith] at hb
    exact h2 b (mem_partsOf.2 ⟨i, vs[i], List.getElem?_eq_getElem (by omega), bites_row hb⟩)
structure LLaws (D : World → Nat → List Nat → DSt → Nat → Prop) (G : World → Nat → Nat → List Nat → List Int → List (List Int) → Nat → Prop) : Prop where
  disk : DLaws D
  stays : ∀ {w w' : World} {l p : Nat} {fl : List Nat} {sn : List Int} {rs : List (List Int)} {m : Nat}, G w l p fl sn rs m → (∀ k ∈ fl, w'.heap[k]? = w.heap[k]?) → G w' l p fl sn rs m
  lt : ∀ {w : World} {l p : Nat} {fl : List Nat} {sn : List Int} {rs : List (List Int)} {m : Nat}, G w l p fl sn rs m → ∀ k ∈ fl, k < w.heap.size
  open_ : ∀ (p : Nat) (fd : List Nat) (s : DSt) (m : Nat) (w : World), D w p fd s m → m ≤ 1073741824 → Ld w →
    Calls Tryd.prog 33 #[.pointer (some ⟨p, 0, none⟩)] w fun r w' => ∃ fd', D w' p fd' (openSt s).2 m ∧
      (((openSt s).1 = 0 ∧ ∃ l fl, r = .returned (.tuple #[.pointer (some ⟨l, 0, none⟩), .int .i64 0]) ∧ G w' l p fl (logOf s.bs).1 (logOf s.bs).2.1 m ∧ Step w w' fd (fd' ++ fl) ∧ (∀ k ∈ fl, k ∉ fd' ∧ w.heap.size ≤ k)) ∨
       ((openSt s).1 ≠ 0 ∧ r = .returned (.tuple #[.pointer none, .int .i64 (openSt s).1]) ∧ Step w w' fd fd'))
  append : ∀ (l p : Nat) (fd fl : List Nat) (s : DSt) (sn : List Int) (rs : List (List Int)) (m : Nat) (A : Option Addr) (n c : Nat) (ys : List Int) (w : World), D w p fd s m → G w l p fl sn rs m → (∀ k ∈ fl, k ∉ fd) → Lent w (fd ++ fl) A n c ys → s.dead = false → m + n + 9 ≤ 1073741824 → Ld w →
    Calls Tryd.prog 25 #[.pointer (some ⟨l, 0, none⟩), .slice A n c] w fun r w' => ∃ fd' fl', Step w w' (fd ++ fl) (fd' ++ fl') ∧ (∀ k ∈ fl', k ∉ fd') ∧
      if 131071 < n then r = .returned (.int .i64 5) ∧ D w' p fd' s (m + n + 9) ∧ G w' l p fl' sn rs (m + n + 9)
      else r = .returned (.int .i64 0) ∧ D w' p fd' (s.add (recFrame ys)) (m + n + 9) ∧ G w' l p fl' sn (rs ++ [ys]) (m + n + 9)
  sync : ∀ (l p : Nat) (fd fl : List Nat) (s : DSt) (sn : List Int) (rs : List (List Int)) (m : Nat) (w : World), D w p fd s m → G w l p fl sn rs m → (∀ k ∈ fl, k ∉ fd) → s.dead = false → m ≤ 1073741824 →
    Calls Tryd.prog 15 #[.pointer (some ⟨l, 0, none⟩)] w fun r w' => ∃ fd' fl', Step w w' (fd ++ fl) (fd' ++ fl') ∧ (∀ k ∈ fl', k ∉ fd') ∧
      r = .returned (.int .i64 s.sync.1) ∧ D w' p fd' s.sync.2 m ∧ (s.sync.1 = 0 → G w' l p fl' sn rs m)
  compact : ∀ (l p : Nat) (fd fl : List Nat) (s : DSt) (sn : List Int) (rs : List (List Int)) (m : Nat) (A : Option Addr) (n c : Nat) (ys : List Int) (w : World), D w p fd s m → G w l p fl sn rs m → (∀ k ∈ fl, k ∉ fd) → Lent w (fd ++ fl) A n c ys → s.dead = false → m + n + 9 ≤ 1073741824 → Ld w →
    Calls Tryd.prog 17 #[.pointer (some ⟨l, 0, none⟩), .slice A n c] w fun r w' => ∃ fd' fl', Step w w' (fd ++ fl) (fd' ++ fl') ∧ (∀ k ∈ fl', k ∉ fd') ∧
      if 131071 < n then r = .returned (.int .i64 5) ∧ D w' p fd' s (m + n + 9) ∧ G w' l p fl' sn rs (m + n + 9)
      else r = .returned (.int .i64 (s.swap (snapFrame ys)).1) ∧ D w' p fd' (s.swap (snapFrame ys)).2 (m + n + 9) ∧ ((s.swap (snapFrame ys)).1 = 0 → G w' l p fl' ys [] (m + n + 9))
  snap : ∀ (l p : Nat) (fl : List Nat) (sn : List Int) (rs : List (List Int)) (m : Nat) (w : World), G w l p fl sn rs m → m ≤ 1073741824 →
    Calls Tryd.prog 37 #[.pointer (some ⟨l, 0, none⟩)] w fun r w' => ∃ v fl', r = .returned v ∧ TRow w' v sn.length sn ∧ (∀ k ∈ rowOf v, w.heap.size ≤ k ∧ k ∉ fl') ∧ G w' l p fl' sn rs m ∧ Step w w' fl fl'
  recs : ∀ (l p : Nat) (fl : List Nat) (sn : List Int) (rs : List (List Int)) (m : Nat) (w : World), G w l p fl sn rs m → m ≤ 1073741824 →
    Calls Tryd.prog 35 #[.pointer (some ⟨l, 0, none⟩)] w fun r w' => ∃ v fl' fr, r = .returned v ∧ TRows w' v rs fr ∧ (∀ k ∈ fr, w.heap.size ≤ k ∧ k ∉ fl') ∧ G w' l p fl' sn rs m ∧ Step w w' fl fl'
/-- A Disk and the Log that keeps it, in a walk that began in W. -/
structure LAt (D : World → Nat → List Nat → DSt → Nat → Prop) (G : World → Nat → Nat → List Nat → List Int → List (List Int) → Nat → Prop) (W w : World) (p l : Nat) (fd fl : List Nat) (s : DSt) (sn : List Int) (rs : List (List Int)) (m : Nat) : Prop where
  disk : D w p fd s m
  log : G w l p fl sn rs m
  apart : ∀ k ∈ fl, k ∉ fd
  old : Moved W w []
  newd : ∀ k ∈ fd, W.heap.size ≤ k
  newl : ∀ k ∈ fl, W.heap.size ≤ k
section
variable {D : World → Nat → List Nat → DSt → Nat → Prop} {G : World → Nat → Nat → List Nat → List Int → List (List Int) → Nat → Prop} {W w : World} {p l : Nat} {fd fl : List Nat} {s s' : DSt} {sn : List Int} {rs : List (List Int)} {m : Nat}
/-- The Disk alone. -/
theorem LAt.at_ (h : LAt D G W w p l fd fl s sn rs m) : At D W w p fd s m := ⟨h.disk, h.old, h.newd⟩
theorem LAt.all (h : LAt D G W w p l fd fl s sn rs m) : ∀ k ∈ fd ++ fl, W.heap.size ≤ k := fun k hk => (List.mem_append.1 hk).elim (h.newd k) (h.newl k)
theorem LAt.step (h : LAt D G W w p l fd fl s sn rs m) {w1 : World} {fd1 fl1 : List Nat} {s1 : DSt} {sn1 : List Int} {rs1 : List (List Int)} {m1 : Nat} (h1 : D w1 p fd1 s1 m1) (h2 : G w1 l p fl1 sn1 rs1 m1) (h3 : ∀ k ∈ fl1, k ∉ fd1) (hS : Step w w1 (fd ++ fl) (fd1 ++ fl1)) : LAt D G W w1 p l fd1 fl1 s1 sn1 rs1 m1 :=
  ⟨h1, h2, h3, moved_on h.old hS h.all, fun k hk => new_on h.old hS h.all k (List.mem_append.2 (.inl hk)), fun k hk => new_on h.old hS h.all k (List.mem_append.2 (.inr hk))⟩
theorem LAt.dstep (h : LAt D G W w p l fd fl s sn rs m) {w1 : World} {fd1 fl1 : List Nat} {s1 : DSt} {m1 : Nat} (h1 : D w1 p fd1 s1 m1) (hS : Step w w1 (fd ++ fl) (fd1 ++ fl1)) : At D W w1 p fd1 s1 m1 :=
  ⟨h1, moved_on h.old hS h.all, fun k hk => new_on h.old hS h.all k (List.mem_append.2 (.inl hk))⟩
theorem LAt.lent (h : LAt D G W w p l fd fl s sn rs m) {A : Option Addr} {n c : Nat} {ys : List Int} (hY : Was W A n c ys) : Lent w (fd ++ fl) A n c ys := hY.lent h.old h.all
variable (L : LLaws D G)
include L
/-- The Disk is used: the Log stays. -/
theorem LAt.side (h : LAt D G W w p l fd fl s sn rs m) {w1 : World} {fd1 : List Nat} {s1 : DSt} (h1 : D w1 p fd1 s1 m) (hS : Step w w1 fd fd1) : LAt D G W w1 p l fd1 fl s1 sn rs m :=
  ⟨h1, L.stays h.log (fun k hk => hS.1.block k (L.lt h.log k hk) (h.apart k hk)), fun k hk hf => by
    rcases hS.2 k hf with h' | h'
    · exact h.apart k hk h'
    · have := L.lt h.log k hk; omega, moved_on h.old hS h.newd, new_on h.old hS h.newd, h.newl⟩
/-- Something else moves. -/
theorem LAt.keeps (h : LAt D G W w p l fd fl s sn rs m) {w1 : World} {S T : List Nat} (hS : Step w w1 S T) (hn : ∀ k ∈ S, W.heap.size ≤ k) (hd : ∀ k ∈ S, k ∉ fd ∧ k ∉ fl) : LAt D G W w1 p l fd fl s sn rs m :=
  ⟨L.disk.stays h.disk (fun k hk => hS.1.block k (L.disk.lt h.disk k hk) (fun hm => (hd k hm).1 hk)), L.stays h.log (fun k hk => hS.1.block k (L.lt h.log k hk) (fun hm => (hd k hm).2 hk)), h.apart, moved_on h.old hS hn, h.newd, h.newl⟩
theorem LAt.again (h : LAt D G W w p l fd fl s sn rs m) (o : Obj) : LAt D G W (w.alloc o) p l fd fl s sn rs m := h.keeps L (S := []) (T := []) ⟨(Moved.refl w []).alloc o, fun _ h => (by cases h)⟩ (fun _ h => by cases h) (fun _ h => by cases h)
theorem LAt.drewN (h : LAt D G W w p l fd fl s sn rs m) (n : Nat) : LAt D G W (w.drewN n) p l fd fl s sn rs m := h.keeps L (S := []) (T := []) ⟨(Moved.refl w []).drewN n, fun _ h => (by cases h)⟩ (fun _ h => by cases h) (fun _ h => by cases h)
theorem LAt.append_ {A : Option Addr} {n c : Nat} {ys : List Int} (h : LAt D G W w p l fd fl s sn rs m) (hld : Ld W) (hY : Lent w (fd ++ fl) A n c ys) (hd : s.dead = false) (hn : n ≤ 131071) (hs : s.add (recFrame ys) = s') (hm : m + n + 9 ≤ 1073741824) :
    Calls Tryd.prog 25 #[.pointer (some ⟨l, 0, none⟩), .slice A n c] w fun r w' => r = .returned (.int .i64 0) ∧ ∃ fd' fl', LAt D G W w' p l fd' fl' s' sn (rs ++ [ys]) (m + n + 9) ∧ Step w w' (fd ++ fl) (fd' ++ fl') := by
  subst hs
  refine (L.append l p fd fl s sn rs m A n c ys w h.disk h.log h.apart hY hd hm (hld.moved h.old)).mono ?_
  rintro r w' ⟨fd', fl', hS, ha, hif⟩
  rw [if_neg (by omega)] at hif
  exact ⟨hif.1, fd', fl', h.step hif.2.1 hif.2.2 ha hS, hS⟩
theorem LAt.append {A : Option Addr} {n c : Nat} {ys : List Int} (h : LAt D G W w p l fd fl s sn rs m) (hld : Ld W) (hY : Was W A n c ys) (hd : s.dead = false) (hn : n ≤ 131071) (hs : s.add (recFrame ys) = s') (hm : m + n + 9 ≤ 1073741824) :
    Calls Tryd.prog 25 #[.pointer (some ⟨l, 0, none⟩), .slice A n c] w fun r w' => r = .returned (.int .i64 0) ∧ ∃ fd' fl', LAt D G W w' p l fd' fl' s' sn (rs ++ [ys]) (m + n + 9) ∧ Step w w' (fd ++ fl) (fd' ++ fl') :=
  h.append_ L hld (h.lent hY) hd hn hs hm
theorem LAt.long {A : Option Addr} {n c : Nat} {ys : List Int} (h : LAt D G W w p l fd fl s sn rs m) (hld : Ld W) (hY : Lent w (fd ++ fl) A n c ys) (hd : s.dead = false) (hn : 131071 < n) (hm : m + n + 9 ≤ 1073741824) :
    Calls Tryd.prog 25 #[.pointer (some ⟨l, 0, none⟩), .slice A n c] w fun r w' => r = .returned (.int .i64 5) ∧ ∃ fd' fl', LAt D G W w' p l fd' fl' s sn rs (m + n + 9) ∧ Step w w' (fd ++ fl) (fd' ++ fl') := by
  refine (L.append l p fd fl s sn rs m A n c ys w h.disk h.log h.apart hY hd hm (hld.moved h.old)).mono ?_
  rintro r w' ⟨fd', fl', hS, ha, hif⟩
  rw [if_pos hn] at hif
  exact ⟨hif.1, fd', fl', h.step hif.2.1 hif.2.2 ha hS, hS⟩
theorem LAt.sync (h : LAt D G W w p l fd fl s sn rs m) (hd : s.dead = false) (hs : s.sync = (0, s')) (hm : m ≤ 1073741824) :
    Calls Tryd.prog 15 #[.pointer (some ⟨l, 0, none⟩)] w fun r w' => r = .returned (.int .i64 0) ∧ ∃ fd' fl', LAt D G W w' p l fd' fl' s' sn rs m ∧ Step w w' (fd ++ fl) (fd' ++ fl') := by
  refine (L.sync l p fd fl s sn rs m w h.disk h.log h.apart hd hm).mono ?_
  rintro r w' ⟨fd', fl', hS, ha, h1, h2, h3⟩
  rw [hs] at h1 h2 h3
  exact ⟨h1, fd', fl', h.step h2 (h3 rfl) ha hS, hS⟩
theorem LAt.sync_no {e : Int} (h : LAt D G W w p l fd fl s sn rs m) (hd : s.dead = false) (hs : s.sync = (e, s')) (hm : m ≤ 1073741824) :
    Calls Tryd.prog 15 #[.pointer (some ⟨l, 0, none⟩)] w fun r w' => r = .returned (.int .i64 e) ∧ ∃ fd', At D W w' p fd' s' m := by
  refine (L.sync l p fd fl s sn rs m w h.disk h.log h.apart hd hm).mono ?_
  rintro r w' ⟨fd', fl', hS, ha, h1, h2, -⟩
  rw [hs] at h1 h2
  exact ⟨h1, fd', h.dstep h2 hS⟩
theorem LAt.compact_ {A : Option Addr} {n c : Nat} {ys : List Int} (h : LAt D G W w p l fd fl s sn rs m) (hld : Ld W) (hY : Lent w (fd ++ fl) A n c ys) (hd : s.dead = false) (hn : n ≤ 131071) (hs : s.swap (snapFrame ys) = (0, s')) (hm : m + n + 9 ≤ 1073741824) :
    Calls Tryd.prog 17 #[.pointer (some ⟨l, 0, none⟩), .slice A n c] w fun r w' => r = .returned (.int .i64 0) ∧ ∃ fd' fl', LAt D G W w' p l fd' fl' s' ys [] (m + n + 9) ∧ Step w w' (fd ++ fl) (fd' ++ fl') := by
  refine (L.compact l p fd fl s sn rs m A n c ys w h.disk h.log h.apart hY hd hm (hld.moved h.old)).mono ?_
  rintro r w' ⟨fd', fl', hS, ha, hif⟩
  rw [if_neg (by omega), hs] at hif
  exact ⟨hif.1, fd', fl', h.step hif.2.1 (hif.2.2 rfl) ha hS, hS⟩
theorem LAt.compact_no {A : Option Addr} {n c : Nat} {ys : List Int} {e : Int} (h : LAt D G W w p l fd fl s sn rs m) (hld : Ld W) (hY : Lent w (fd ++ fl) A n c ys) (hd : s.dead = false) (hn : n ≤ 131071) (hs : s.swap (snapFrame ys) = (e, s')) (hm : m + n + 9 ≤ 1073741824) :
    Calls Tryd.prog 17 #[.pointer (some ⟨l, 0, none⟩), .slice A n c] w fun r w' => r = .returned (.int .i64 e) ∧ ∃ fd', At D W w' p fd' s' (m + n + 9) := by
  refine (L.compact l p fd fl s sn rs m A n c ys w h.disk h.log h.apart hY hd hm (hld.moved h.old)).mono ?_
  rintro r w' ⟨fd', fl', hS, ha, hif⟩
  rw [if_neg (by omega), hs] at hif
  exact ⟨hif.1, fd', h.dstep hif.2.1 hS⟩
theorem LAt.compact_long {A : Option Addr} {n c : Nat} {ys : List Int} (h : LAt D G W w p l fd fl s sn rs m) (hld : Ld W) (hY : Lent w (fd ++ fl) A n c ys) (hd : s.dead = false) (hn : 131071 < n) (hm : m + n + 9 ≤ 1073741824) :
    Calls Tryd.prog 17 #[.pointer (some ⟨l, 0, none⟩), .slice A n c] w fun r w' => r = .returned (.int .i64 5) ∧ ∃ fd' fl', LAt D G W w' p l fd' fl' s sn rs (m + n + 9) ∧ Step w w' (fd ++ fl) (fd' ++ fl') := by
  refine (L.compact l p fd fl s sn rs m A n c ys w h.disk h.log h.apart hY hd hm (hld.moved h.old)).mono ?_
  rintro r w' ⟨fd', fl', hS, ha, hif⟩
  rw [if_pos hn] at hif
  exact ⟨hif.1, fd', fl', h.step hif.2.1 hif.2.2 ha hS, hS⟩
/-- The Log alone moves: the Disk stays. -/
theorem LAt.lstep (h : LAt D G W w p l fd fl s sn rs m) {w1 : World} {fl1 : List Nat} (h1 : G w1 l p fl1 sn rs m) (hS : Step w w1 fl fl1) : LAt D G W w1 p l fd fl1 s sn rs m :=
  ⟨L.disk.stays h.disk (fun k hk => hS.1.block k (L.disk.lt h.disk k hk) (fun hm => h.apart k hm hk)), h1, fun k hk hf => by
    rcases hS.2 k hk with h' | h'
    · exact h.apart k h' hf
    · have := L.disk.lt h.disk k hf; omega, moved_on h.old hS h.newl, h.newd, new_on h.old hS h.newl⟩
theorem LAt.recs (h : LAt D G W w p l fd fl s sn rs m) (hm : m ≤ 1073741824) :
    Calls Tryd.prog 35 #[.pointer (some ⟨l, 0, none⟩)] w fun r w' => ∃ A c vs fl' fr, r = .returned (.slice A rs.length c) ∧ TRows w' (.slice A rs.length c) rs fr ∧ BRows w' A vs rs ∧ (A = none → c = 0) ∧ (rs.length ≤ c ∧ c ≤ 9223372036854775807) ∧ (∀ b ∈ rowsOf A vs rs, b ∈ fr) ∧ (∀ k ∈ fr, w.heap.size ≤ k ∧ k ∉ fl' ∧ k ∉ fd) ∧ LAt D G W w' p l fd fl' s sn rs m ∧ Step w w' fl fl' := by
  refine (L.recs l p fl sn rs m w h.log hm).mono ?_
  rintro r w' ⟨v, fl', fr, rfl, hT, hf, hG, hS⟩
  obtain ⟨A, c, vs, rfl, hB, hn, hc, hr⟩ := hT.reads
  exact ⟨A, c, vs, fl', fr, rfl, hT, hB, hn, hc, hr, fun k hk => ⟨(hf k hk).1, (hf k hk).2, fun hd => by have := L.disk.lt h.disk k hd; have := (hf k hk).1; omega⟩, h.lstep L hG hS, hS⟩
theorem LAt.snap (h : LAt D G W w p l fd fl s sn rs m) (hm : m ≤ 1073741824) :
    Calls Tryd.prog 37 #[.pointer (some ⟨l, 0, none⟩)] w fun r w' => ∃ A c fl', r = .returned (.slice A sn.length c) ∧ TRow w' (.slice A sn.length c) sn.length sn ∧ (A = none → c = 0) ∧ (sn.length ≤ c ∧ c ≤ 9223372036854775807) ∧ (∀ k ∈ rowOf (.slice A sn.length c), w.heap.size ≤ k ∧ k ∉ fl' ∧ k ∉ fd) ∧ LAt D G W w' p l fd fl' s sn rs m ∧ Step w w' fl fl' := by
  refine (L.snap l p fl sn rs m w h.log hm).mono ?_
  rintro r w' ⟨v, fl', rfl, hT, hf, hG, hS⟩
  obtain ⟨A, c, rfl, hn, hc⟩ := t_shape hT
  exact ⟨A, c, fl', rfl, hT, hn, hc, fun k hk => ⟨(hf k hk).1, (hf k hk).2, fun hd => by have := L.disk.lt h.disk k hd; have := (hf k hk).1; omega⟩, h.lstep L hG hS, hS⟩
/-- Open, where it goes well. -/
theorem LAt.open_ {k : Nat} (h : At D W w p fd s m) (hld : Ld W) (ho : openSt s = (0, s')) (hl : logOf s.bs = (sn, rs, k)) (hm : m ≤ 1073741824) :
    Calls Tryd.prog 33 #[.pointer (some ⟨p, 0, none⟩)] w fun r w' => ∃ l fd' fl', r = .returned (.tuple #[.pointer (some ⟨l, 0, none⟩), .int .i64 0]) ∧ LAt D G W w' p l fd' fl' s' sn rs m ∧ Step w w' fd (fd' ++ fl') := by
  refine (L.open_ p fd s m w h.on hm (hld.moved h.old)).mono ?_
  rintro r w' ⟨fd', hD, (⟨-, l, fl, rfl, hG, hS, hf⟩ | ⟨hne, -⟩)⟩
  · rw [ho] at hD
    rw [hl] at hG
    exact ⟨l, fd', fl, rfl, ⟨hD, hG, fun k hk => (hf k hk).1, moved_on h.old hS h.new, fun k hk => new_on h.old hS h.new k (List.mem_append.2 (.inl hk)), fun k hk => new_on h.old hS h.new k (List.mem_append.2 (.inr hk))⟩, hS⟩
  · rw [ho] at hne; exact absurd rfl hne
theorem LAt.open_no (h : At D W w p fd s m) (hld : Ld W) {e : Int} (ho : openSt s = (e, s')) (he : e ≠ 0) (hm : m ≤ 1073741824) :
    Calls Tryd.prog 33 #[.pointer (some ⟨p, 0, none⟩)] w fun r w' => ∃ fd', r = .returned (.tuple #[.pointer none, .int .i64 e]) ∧ At D W w' p fd' s' m ∧ Step w w' fd fd' := by
  refine (L.open_ p fd s m w h.on hm (hld.moved h.old)).mono ?_
  rintro r w' ⟨fd', hD, (⟨h0, -⟩ | ⟨-, rfl, hS⟩)⟩
  · rw [ho] at h0; exact absurd h0 he
  · rw [ho] at hD ⊢
    exact ⟨fd', rfl, h.step hD hS, hS⟩
end
end Lg
end Go.Proofs.YtekleamkpfeifaaDoor
