/-
  Bytes that a call owns: what appending to them does, and what it leaves alone.
-/
import Derived.Test.YtogdfjkbkhnobaaBx
import Derived.Test.YtogdfjkbkhnobaaMh
import Derived.Lib.OthersKept
import Derived.Lib.AppendStr
import Derived.Maps.AppendAt
import Derived.RegionTactic
namespace Go.Proofs.Ytogdfjkbkhnobaa
open Go.RowKit
set_option maxRecDepth 100000

/-- Bytes that a call owns. -/
def Own8 (w : World) (B : Nat) (v : Value) (xs : List UInt8) : Prop := w.ownsRow B 5 1 v xs.length (xs.map byteV)
/-- All else is as it was. -/
structure Kept8 (B : Nat) (w w' : World) : Prop where
  below : Below B w w'
  others : Lib.OthersKept 5 none w w'
theorem Kept8.refl (B : Nat) (w : World) : Kept8 B w w := ⟨Below.refl _ _, Lib.OthersKept.refl _ _ _⟩
theorem Kept8.trans {B : Nat} {a b c : World} (h : Kept8 B a b) (k : Kept8 B b c) : Kept8 B a c := ⟨h.below.trans k.below, h.others.trans k.others⟩
theorem Kept8.alloc {B : Nat} {a b : World} (h : Kept8 B a b) (hB : B ≤ b.heap.size) (o : Obj) : Kept8 B a (b.alloc o) := ⟨h.below.alloc hB o, h.others.alloc o⟩
theorem Kept8.drew {B : Nat} {a b : World} (h : Kept8 B a b) : Kept8 B a b.drew := ⟨h.below.drew, h.others.drew⟩
theorem Kept8.size {B : Nat} {a b : World} (h : Kept8 B a b) : a.heap.size ≤ b.heap.size := h.below.size
theorem Kept8.at {B : Nat} {a w : World} (h : Kept8 B a w) {b : Nat} {t : TypeId} {cs : Array Value} (ht : t ≠ 5) (ha : At a b t cs) : At w b t cs :=
  h.others b _ ha (by simp) (fun c fz e => by cases e; exact ht rfl)
theorem Kept8.of_below {B : Nat} {w w' : World} (h : Below w.heap.size w w') (hB : B ≤ w.heap.size) : Kept8 B w w' :=
  ⟨h.mono hB, fun k _ hk _ _ => (h.block k (Array.getElem?_eq_some_iff.1 hk).1).trans hk⟩
theorem Own8.nil (w : World) (B : Nat) : Own8 w B (.slice none 0 0) [] := World.ownsRow_nil _ _ _ _
theorem Own8.alloc {w : World} {B : Nat} {v : Value} {xs : List UInt8} (h : Own8 w B v xs) (o : Obj) : Own8 (w.alloc o) B v xs := World.ownsRow.alloc h o
theorem Own8.drew {w : World} {B : Nat} {v : Value} {xs : List UInt8} (h : Own8 w B v xs) : Own8 w.drew B v xs := h
theorem own8_kind {w : World} {B : Nat} {v : Value} {xs : List UInt8} (h : Own8 w B v xs) : ∀ g, v.ownBlock = some g → ∃ c fz, w.heap[g]? = some (.cells c 5 fz) := by
  intro g hg
  rcases World.ownsRow.lt h g hg with ⟨h1, h2⟩
  rcases h.2 with ⟨rfl, _⟩ | ⟨g', cap, cur, rfl, _, hgg, _⟩
  · simp [Value.ownBlock] at hg
  · simp [Value.ownBlock] at hg
    subst hg
    exact ⟨cur, _, hgg⟩
theorem kept8_grown {w w' : World} {B : Nat} {v : Value} {xs : List UInt8} (h : Own8 w B v xs) (hB : B ≤ w.heap.size) (hg : w.grownBy w' v.ownBlock) : Kept8 B w w' :=
  ⟨(Below.refl _ _).grown hg hB (fun q hq => (World.ownsRow.lt h q hq).1), (Lib.OthersKept.refl _ _ _).grown hg (own8_kind h)⟩

/-- What an appending did: all but the row's own block, as it was; where the row lies now. -/
structure Grew (v : Value) (w : World) (v' : Value) (w' : World) : Prop where
  by_ : w.grownBy w' v.ownBlock
  at_ : v'.ownBlock = v.ownBlock ∨ ∃ g, v'.ownBlock = some g ∧ w.heap.size ≤ g
theorem Grew.refl (v : Value) (w : World) : Grew v w v w := ⟨⟨rfl, rfl, rfl, Nat.le_refl _, fun _ _ _ => rfl⟩, .inl rfl⟩
theorem Grew.size {v v' : Value} {w w' : World} (h : Grew v w v' w') : w.heap.size ≤ w'.heap.size := h.by_.size
theorem Grew.ahead {v v' : Value} {a w w' : World} (h : Grew v w v' w') (hs : a.heap.size ≤ w.heap.size) (hk : a.os = w.os ∧ a.tape = w.tape ∧ a.output = w.output) (hb : ∀ k, k < a.heap.size → w.heap[k]? = a.heap[k]?) : Grew v a v' w' :=
  ⟨⟨h.by_.os.trans hk.1.symm, h.by_.tape.trans hk.2.1.symm, h.by_.output.trans hk.2.2.symm, Nat.le_trans hs h.size, fun k hk' hne => (h.by_.block k (Nat.lt_of_lt_of_le hk' hs) hne).trans (hb k hk')⟩,
   h.at_.imp id (fun ⟨g, h1, h2⟩ => ⟨g, h1, Nat.le_trans hs h2⟩)⟩
theorem Grew.trans {v v1 v2 : Value} {w w1 w2 : World} (h : Grew v w v1 w1) (k : Grew v1 w1 v2 w2) : Grew v w v2 w2 := by
  refine ⟨⟨k.by_.os.trans h.by_.os, k.by_.tape.trans h.by_.tape, k.by_.output.trans h.by_.output, Nat.le_trans h.size k.size, fun i hi hne => ?_⟩, ?_⟩
  · refine (k.by_.block i (Nat.lt_of_lt_of_le hi h.size) ?_).trans (h.by_.block i hi hne)
    rcases h.at_ with e | ⟨g, e, hg⟩
    · rw [e]; exact hne
    · rw [e]; intro e'; cases e'; omega
  · rcases k.at_ with e | ⟨g, e, hg⟩
    · rw [e]; exact h.at_
    · exact .inr ⟨g, e, Nat.le_trans h.size hg⟩
theorem Grew.kept {v v' : Value} {w w' : World} {B : Nat} {xs : List UInt8} (h : Grew v w v' w') (ho : Own8 w B v xs) (hB : B ≤ w.heap.size) : Kept8 B w w' := kept8_grown ho hB h.by_
theorem Grew.unalloc {v v' : Value} {w w' : World} {o : Obj} (h : Grew v (w.alloc o) v' w') : Grew v w v' w' := h.ahead (by simp) ⟨rfl, rfl, rfl⟩ (fun _ hk => heap_alloc_old w o hk)
theorem Grew.undrew {v v' : Value} {w w' : World} (h : Grew v w.drew v' w') : Grew v w v' w' := h.ahead (Nat.le_refl _) ⟨rfl, rfl, rfl⟩ (fun _ _ => rfl)
theorem alloc2_new (w : World) (o1 o2 : Obj) : ((w.alloc o1).alloc o2).heap[w.heap.size + 1]? = some o2 := by
  have := heap_alloc_new (w.alloc o1) o2
  rwa [show (w.alloc o1).heap.size = w.heap.size + 1 by simp] at this
theorem alloc2_old (w : World) (o1 o2 : Obj) : ((w.alloc o1).alloc o2).heap[w.heap.size]? = some o1 := by
  rw [heap_alloc_old _ _ (by simp)]; exact heap_alloc_new w o1
theorem Grew.row {v v' : Value} {w w' : World} {g : Nat} {o : Obj} (h : Grew v w v' w') (hg : w.heap[g]? = some o) (hne : some g ≠ v.ownBlock) : w'.heap[g]? = some o ∧ some g ≠ v'.ownBlock := by
  have hl := (Array.getElem?_eq_some_iff.1 hg).1
  refine ⟨(h.by_.block g hl hne).trans hg, ?_⟩
  rcases h.at_ with e | ⟨g', e, h'⟩
  · rw [e]; exact hne
  · rw [e]; intro e'; cases e'; omega
theorem Own8.apart {w : World} {B : Nat} {v : Value} {xs : List UInt8} (h : Own8 w B v xs) {g : Nat} (hg : w.heap.size ≤ g) : some g ≠ v.ownBlock := fun e => by
  have := (World.ownsRow.lt h g e.symm).2; omega
theorem Own8.later {w w' : World} {B : Nat} {v : Value} {xs : List UInt8} (h : Own8 w B v xs) (hb : Below w.heap.size w w') : Own8 w' B v xs :=
  World.ownsRow.kept h (row := none) ⟨hb.os, hb.tape, hb.output, hb.size, fun k hk _ => hb.block k hk⟩ (by cases v.ownBlock <;> simp)
theorem one8 {x : Int} {c : UInt8} (h : (c.toNat : Int) = x) : #[Value.int .u8 x] = ([c].map byteV).toArray := by subst h; rfl
section
variable {W : World} {ops : Array Oper} {rest : List Oper} {o : Oper} {a : Act} {Q : Exit → Act → World → Prop}
end
end Go.Proofs.Ytogdfjkbkhnobaa
