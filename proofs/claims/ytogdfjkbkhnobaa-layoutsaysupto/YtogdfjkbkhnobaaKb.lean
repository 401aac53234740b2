/-
  All that was there is as it was, but for one block.
-/
import Derived.Test.YtogdfjkbkhnobaaMh
namespace Go.Proofs.Ytogdfjkbkhnobaa
open Go.RowKit
set_option maxRecDepth 100000

/-- All that was there is as it was, but for one block. -/
structure KeepBut (P : Nat) (w w' : World) : Prop where
  os : w'.os = w.os
  tape : w'.tape = w.tape
  output : w'.output = w.output
  size : w.heap.size ≤ w'.heap.size
  block : ∀ k, k < w.heap.size → k ≠ P → w'.heap[k]? = w.heap[k]?
theorem KeepBut.refl (P : Nat) (w : World) : KeepBut P w w := ⟨rfl, rfl, rfl, Nat.le_refl _, fun _ _ _ => rfl⟩
theorem KeepBut.trans {P : Nat} {a b c : World} (h : KeepBut P a b) (k : KeepBut P b c) : KeepBut P a c :=
  ⟨k.os.trans h.os, k.tape.trans h.tape, k.output.trans h.output, Nat.le_trans h.size k.size, fun i hi hp => (k.block i (Nat.lt_of_lt_of_le hi h.size) hp).trans (h.block i hi hp)⟩
theorem KeepBut.of {P : Nat} {w w' : World} (h : Below w.heap.size w w') : KeepBut P w w' := ⟨h.os, h.tape, h.output, h.size, fun k hk _ => h.block k hk⟩
theorem KeepBut.below {P : Nat} {w0 w w' : World} (h : KeepBut P w w') (hb : Below w0.heap.size w0 w) (hP : w0.heap.size ≤ P) : Below w0.heap.size w0 w' :=
  ⟨h.os.trans hb.os, h.tape.trans hb.tape, h.output.trans hb.output, Nat.le_trans hb.size h.size, fun k hk => (h.block k (Nat.lt_of_lt_of_le hk hb.size) (by omega)).trans (hb.block k hk)⟩
theorem KeepBut.at {P : Nat} {w w' : World} {b : Nat} {t : TypeId} {cs : Array Value} (h : KeepBut P w w') (ha : At w b t cs) (hb : b ≠ P) : At w' b t cs := (h.block b ha.lt hb).trans ha
theorem KeepBut.cell {P : Nat} {w w' : World} (h : KeepBut P w w') {b : Nat} (hb : b < w.heap.size) (hp : b ≠ P) (o : Nat) : w'.cell? ⟨b, o, none⟩ = w.cell? ⟨b, o, none⟩ := by
  have B : Below b.succ w w' → _ := fun hB => hB.cell (p := ⟨b, o, none⟩) (Nat.lt_succ_self b)
  unfold World.cell?
  simp only [h.block b hb hp]

theorem KeepBut.drew {P : Nat} {a w : World} (h : KeepBut P a w) : KeepBut P a w.drew := h.trans (.of (Below.refl _ _).drew)
theorem KeepBut.set {P : Nat} {w w' : World} (h : KeepBut P w w') (o : Nat) (v : Value) : KeepBut P w (w'.setCell ⟨P, o, none⟩ v) :=
  h.trans ⟨rfl, rfl, rfl, by simp [World.setCell], fun k _ hp => Below.heap_setCell _ _ _ _ hp⟩
theorem KeepBut.then {P : Nat} {a b c : World} (h : KeepBut P a b) (k : Below b.heap.size b c) : KeepBut P a c := h.trans (.of k)
theorem KeepBut.drewN {P : Nat} {a w : World} (h : KeepBut P a w) (n : Nat) : KeepBut P a (w.drewN n) := by
  induction n with
  | zero => exact h
  | succ n ih => exact ih.drew
end Go.Proofs.Ytogdfjkbkhnobaa
