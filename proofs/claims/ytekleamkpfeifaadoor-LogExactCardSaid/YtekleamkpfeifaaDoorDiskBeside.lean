/-
  Two objects side by side: what stays where something else moves.
-/
import Derived.Test.YtekleamkpfeifaaDoorKB04
import Derived.Test.YtekleamkpfeifaaDoorDiskRef2
import Derived.Deep.RegionHeld3
namespace Go.Proofs.YtekleamkpfeifaaDoor
namespace Dk
open Go.RowKit
theorem QStill : Stays QObj := ⟨QObj.stays, QObj.lt⟩
section
variable {D E : World → Nat → List Nat → DSt → Nat → Prop} {W w w1 : World} {p : Nat} {fp : List Nat} {s : DSt} {m : Nat} {q : Nat} {fq : List Nat} {t : DSt} {km : Nat}
/-- New rows are made, or rows that belong to neither are written over: both stay. -/
theorem At2.apart_from (P : Stays D) (O : Stays E) (h : At2 D E W w p fp s m q fq t km) {S : List Nat} (hM : Moved w w1 S) (hn : ∀ k ∈ S, W.heap.size ≤ k ∧ k ∉ fp ∧ k ∉ fq) : At2 D E W w1 p fp s m q fq t km :=
  ⟨⟨P.stays h.a.on (fun k hk => hM.block k (P.lt h.a.on k hk) (fun hm => (hn k hm).2.1 hk)), h.a.old.trans hM (fun k hk => .inr (hn k hk).1), h.a.new⟩,
   ⟨O.stays h.b.on (fun k hk => hM.block k (O.lt h.b.on k hk) (fun hm => (hn k hm).2.2 hk)), h.b.old.trans hM (fun k hk => .inr (hn k hk).1), h.b.new⟩, h.apart⟩
theorem At2.drew (P : Stays D) (O : Stays E) (h : At2 D E W w p fp s m q fq t km) : At2 D E W w.drew p fp s m q fq t km :=
  h.apart_from P O ((Moved.refl w []).drew) (fun k hk => by cases hk)
theorem At2.again (P : Stays D) (O : Stays E) (h : At2 D E W w p fp s m q fq t km) (o : Obj) : At2 D E W (w.alloc o) p fp s m q fq t km :=
  h.apart_from P O ((Moved.refl w []).alloc o) (fun k hk => by cases hk)
/-- What the second one does. -/
theorem At2.does2 (P : Stays D) (h : At2 D E W w p fp s m q fq t km) {t1 : DSt} {k1 : Nat} {r0 : Value} {r : Ending} {w1 : World} (hd : Does E q fq t1 k1 r0 w r w1) : r = .returned r0 ∧ ∃ f1, At2 D E W w1 p fp s m q f1 t1 k1 ∧ Step w w1 fq f1 := by
  obtain ⟨rfl, f1, h1, hS⟩ := hd
  exact ⟨rfl, f1, (h.flip.step P h1 hS).flip, hS⟩
theorem At2.does1 (O : Stays E) (h : At2 D E W w p fp s m q fq t km) {s1 : DSt} {m1 : Nat} {r0 : Value} {r : Ending} {w1 : World} (hd : Does D p fp s1 m1 r0 w r w1) : r = .returned r0 ∧ ∃ f1, At2 D E W w1 p f1 s1 m1 q fq t km ∧ Step w w1 fp f1 := by
  obtain ⟨rfl, f1, h1, hS⟩ := hd
  exact ⟨rfl, f1, h.step O h1 hS, hS⟩
end
theorem q_cells {w : World} {q : Nat} {fq : List Nat} {s : DSt} {m : Nat} (h : QObj w q fq s m) : w.cell? ⟨q, 1, none⟩ = some (.int .i64 s.safe) ∧ w.cell? ⟨q, 2, none⟩ = some (.bool s.dead) := by
  obtain ⟨v, ar, kp, rfl, hr, -⟩ := h
  exact ⟨cell_at hr.at_ 1 rfl, cell_at hr.at_ 2 rfl⟩
/-- A row stays beside an object that goes on. -/
theorem kept_row {w w1 : World} {v : Value} {n : Nat} {xs : List Int} {S T : List Nat} (h : TRow w v n xs) (hS : Step w w1 S T) (hd : ∀ j ∈ rowOf v, j ∉ S) : TRow w1 v n xs ∧ ∀ j ∈ rowOf v, j ∉ T :=
  ⟨t_stays h (fun j hj => hS.1.block j (t_lt h j hj) (hd j hj)), fun j hj ht => by
    rcases hS.2 j ht with h' | h'
    · exact hd j hj h'
    · have := t_lt h j hj; omega⟩
theorem u64_nat' (n : Int) : ∃ u : Nat, IntKind.u64.wrap n = (u : Int) := ⟨(IntKind.u64.wrap n).toNat, by unfold IntKind.wrap; simp [IntKind.signed, IntKind.bits]; omega⟩
/-- A row stays beside both. -/
theorem Lent.drew {w : World} {fp : List Nat} {A : Option Addr} {n c : Nat} {ys : List Int} (h : Lent w fp A n c ys) : Lent w.drew fp A n c ys := ⟨h.row, h.len, h.nil, h.room, h.bytes, h.far⟩
theorem cell_kept {w w1 : World} {S T : List Nat} (hS : Step w w1 S T) {b o : Nat} {v : Value} (hb : b ∉ S) (hc : w.cell? ⟨b, o, none⟩ = some v) : w1.cell? ⟨b, o, none⟩ = some v := by
  rw [World.cell?_of_block (w := w) (hS.1.block b (World.block_lt_of_cell? w _ hc) hb)]; exact hc
theorem fresh_kept {w w1 : World} {S T : List Nat} (hS : Step w w1 S T) {b : Nat} (hl : b < w.heap.size) (hb : b ∉ S) : b ∉ T := fun ht => by
  rcases hS.2 b ht with h | h
  · exact hb h
  · omega
end Dk
end Go.Proofs.YtekleamkpfeifaaDoor
