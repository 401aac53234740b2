/-
  Bytes that a call owns: what appending to them does, and what it leaves alone.
-/
import Derived.Test.YtggojafapieliabDoorBx
import Derived.Test.YtggojafapieliabDoorMh
import Derived.Lib.OthersKept
import Derived.Lib.AppendStr
import Derived.Maps.AppendAt
import Derived.RegionTactic
namespace Go.Proofs.YtggojafapieliabDoor
open Go.RowKit
set_option maxRecDepth 100000

/-- Bytes that a call owns. -/
def Own8 (w : World) (B : Nat) (v : Value) (xs : List UInt8) : Prop := w.ownsRow B 5 1 v xs.length (xs.map byteV)
/-- All else is as it was. -/
structure Kept8 (B : Nat) (w w' : World) : Prop where
  below : Below B w w'
  others : Lib.OthersKept 5 none w w'
theorem Kept8.refl (B : Nat) (w : World) : Kept8 B w w := ⟨Below.refl _ _, Lib.OthersKept.refl _ _ _⟩
theorem Kept8.trans {B : Nat} {a b c : World} (h : Kept8 B a b) (k : Kept8 B b c) : Kept8 B a c := ⟨h.below.trans k.below, h.others.trans k.others⟩
theorem Kept8.alloc {B : Nat} {a b : World} (h : Kept8 B a b) (hB : B ≤ b.heap.size) (o : Obj) : Kept8 B a (b.alloc o) := ⟨h.below.alloc hB o, h.others.alloc o⟩
theorem Kept8.drew {B : Nat} {a b : World} (h : Kept8 B a b) : Kept8 B a b.drew := ⟨h.below.drew, h.others.drew⟩
theorem Kept8.size {B : Nat} {a b : World} (h : Kept8 B a b) : a.heap.size ≤ b.heap.size := h.below.size
theorem Kept8.at {B : Nat} {a w : World} (h : Kept8 B a w) {b : Nat} {t : TypeId} {cs : Array Value} (ht : t ≠ 5) (ha : At a b t cs) : At w b t cs :=
  h.others b _ ha (by simp) (fun c fz e => by cases e; exact ht rfl)
theorem Kept8.of_below {B : Nat} {w w' : World} (h : Below w.heap.size w w') (hB : B ≤ w.heap.size) : Kept8 B w w' :=
  ⟨h.mono hB, fun k _ hk _ _ => (h.block k (Array.getElem?_eq_some_iff.1 hk).1).trans hk⟩
theorem Own8.nil (w : World) (B : Nat) : Own8 w B (.slice none 0 0) [] := World.ownsRow_nil _ _ _ _
theorem Own8.alloc {w : World} {B : Nat} {v : Value} {xs : List UInt8} (h : Own8 w B v xs) (o : Obj) : Own8 (w.alloc o) B v xs := World.ownsRow.alloc h o
theorem Own8.drew {w : World} {B : Nat} {v : Value} {xs : List UInt8} (h : Own8 w B v xs) : Own8 w.drew B v xs := h
theorem own8_kind {w : World} {B : Nat} {v : Value} {xs : List UInt8} (h : Own8 w B v xs) : ∀ g, v.ownBlock = some g → ∃ c fz, w.heap[g]? = some (.cells c 5 fz) := by
  intro g hg
  rcases World.ownsRow.lt h g hg with ⟨h1, h2⟩
  rcases h.2 with ⟨rfl, _⟩ | ⟨g', cap, cur, rfl, _, hgg, _⟩
  · simp [Value.ownBlock] at hg
  · simp [Value.ownBlock] at hg
    subst hg
    exact ⟨cur, _, hgg⟩
theorem kept8_grown {w w' : World} {B : Nat} {v : Value} {xs : List UInt8} (h : Own8 w B v xs) (hB : B ≤ w.heap.size) (hg : w.grownBy w' v.ownBlock) : Kept8 B w w' :=
  ⟨(Below.refl _ _).grown hg hB (fun q hq => (World.ownsRow.lt h q hq).1), (Lib.OthersKept.refl _ _ _).grown hg (own8_kind h)⟩

/-- What an appending did: all but the row's own block, as it was; where the row lies now. -/
structure Grew (v : Value) (w : World) (v' : Value) (w' : World) : Prop where
  by_ : w.grownBy w' v.ownBlock
  at_ : v'.ownBlock = v.ownBlock ∨ ∃ g, v'.ownBlock = some g ∧ w.heap.size ≤ g
theorem Grew.refl (v : Value) (w : World) : Grew v w v w := ⟨⟨rfl, rfl, rfl, Nat.le_refl _, fun _ _ _ => rfl⟩, .inl rfl⟩
theorem Grew.size {v v' : Value} {w w' : World} (h : Grew v w v' w') : w.heap.size ≤ w'.heap.size := h.by_.size
theorem Grew.ahead {v v' : Value} {a w w' : World} (h : Grew v w v' w') (hs : a.heap.size ≤ w.heap.size) (hk : a.os = w.os ∧ a.tape = w.tape ∧ a.output = w.output) (hb : ∀ k, k < a.heap.size → w.heap[k]? = a.heap[k]?) : Grew v a v' w' :=
  ⟨⟨h.by_.os.trans hk.1.symm, h.by_.tape.trans hk.2.1.symm, h.by_.output.trans hk.2.2.symm, Nat.le_trans hs h.size, fun k hk' hne => (h.by_.block k (Nat.lt_of_lt_of_le hk' hs) hne).trans (hb k hk')⟩,
   h.at_.imp id (fun ⟨g, h1, h2⟩ => ⟨g, h1, Nat.le_trans hs h2⟩)⟩
theorem Grew.trans {v v1 v2 : Value} {w w1 w2 : World} (h : Grew v w v1 w1) (k : Grew v1 w1 v2 w2) : Grew v w v2 w2 := by
  refine ⟨⟨k.by_.os.trans h.by_.os, k.by_.tape.trans h.by_.tape, k.by_.output.trans h.by_.output, Nat.le_trans h.size k.size, fun i hi hne => ?_⟩, ?_⟩
  · refine (k.by_.block i (Nat.lt_of_lt_of_le hi h.size) ?_).trans (h.by_.block i hi hne)
    rcases h.at_ with e | ⟨g, e, hg⟩
    · rw [e]; exact hne
    · rw [e]; intro e'; cases e'; omega
  · rcases k.at_ with e | ⟨g, e, hg⟩
    · rw [e]; exact h.at_
    · exact .inr ⟨g, e, Nat.le_trans h.size hg⟩
theorem Grew.kept {v v' : Value} {w w' : World} {B : Nat} {xs : List UInt8} (h : Grew v w v' w') (ho : Own8 w B v xs) (hB : B ≤ w.heap.size) : Kept8 B w w' := kept8_grown ho hB h.by_
theorem Grew.unalloc {v v' : Value} {w w' : World} {o : Obj} (h : Grew v (w.alloc o) v' w') : Grew v w v' w' := h.ahead (by simp) ⟨rfl, rfl, rfl⟩ (fun _ hk => heap_alloc_old w o hk)
theorem Grew.undrew {v v' : Value} {w w' : World} (h : Grew v w.drew v' w') : Grew v w v' w' := h.ahead (Nat.le_refl _) ⟨rfl, rfl, rfl⟩ (fun _ _ => rfl)
theorem alloc2_new (w : World) (o1 o2 : Obj) : ((w.alloc o1).alloc o2).heap[w.heap.size + 1]? = some o2 := by
  have := heap_alloc_new (w.alloc o1) o2
  rwa [show (w.alloc o1).heap.size = w.heap.size + 1 by simp] at this
theorem alloc2_old (w : World) (o1 o2 : Obj) : ((w.alloc o1).alloc o2).heap[w.heap.size]? = some o1 := by
  rw [heap_alloc_old _ _ (by simp)]; exact heap_alloc_new w o1
theorem Grew.row {v v' : Value} {w w' : World} {g : Nat} {o : Obj} (h : Grew v w v' w') (hg : w.heap[g]? = some o) (hne : some g ≠ v.ownBlock) : w'.heap[g]? = some o ∧ some g ≠ v'.ownBlock := by
  have hl := (Array.getElem?_eq_some_iff.1 hg).1
  refine ⟨(h.by_.block g hl hne).trans hg, ?_⟩
  rcases h.at_ with e | ⟨g', e, h'⟩
  · rw [e]; exact hne
  · rw [e]; intro e'; cases e'; omega
theorem Own8.apart {w : World} {B : Nat} {v : Value} {xs : List UInt8} (h : Own8 w B v xs) {g : Nat} (hg : w.heap.size ≤ g) : some g ≠ v.ownBlock := fun e => by
  have := (World.ownsRow.lt h g e.symm).2; omega
theorem Own8.later {w w' : World} {B : Nat} {v : Value} {xs : List UInt8} (h : Own8 w B v xs) (hb : Below w.heap.size w w') : Own8 w' B v xs :=
  World.ownsRow.kept h (row := none) ⟨hb.os, hb.tape, hb.output, hb.size, fun k hk _ => hb.block k hk⟩ (by cases v.ownBlock <;> simp)
theorem one8 {x : Int} {c : UInt8} (h : (c.toNat : Int) = x) : #[Value.int .u8 x] = ([c].map byteV).toArray := by subst h; rfl
section
variable {W : World} {ops : Array Oper} {rest : List Oper} {o : Oper} {a : Act} {Q : Exit → Act → World → Prop}
theorem wpApp8 (hgd : o.guard = none) (s x : Operand) (ho : o.op = .call { callee := .builtin .append, args := #[s, x], argTypes := #[73, 73] })
    (B : Nat) (v : Value) (xs : List UInt8) (hs : a.eval s = v) (hown : Own8 W B v xs) (cells : Array Value) (ys : List UInt8) (m c : Nat) (hx : a.eval x = .slice (some ⟨W.heap.size, 0, none⟩) m c)
    (hm : ys.length = m) (hc : cells = (ys.map byteV).toArray) (hlim : xs.length + m ≤ 1000000000) (hB : B ≤ W.heap.size)
    (h : ∀ v' w', Own8 w' B v' (xs ++ ys) → Kept8 B W w' → wpList Tryd.prog ops Q rest (a.put o.dst v') w') :
    wpList Tryd.prog ops Q (o :: rest) a (W.alloc (.cells cells 5)) := by
  obtain ⟨i0, hi, hz0, hz1, hz2⟩ := info_parts info5
  subst hm
  subst hc
  refine wpList_append_own _ hgd s x 73 ho B 5 i0 (.int .u8 0) 1 1 Tryd.underlying73 hi hz0 hz1 hz2 rfl (by decide) v xs.length (xs.map byteV) hs (hown.alloc _) ⟨W.heap.size, 0, none⟩ ys.length c (ys.map byteV) hx (by simp) ?_ ?_ (by unfold maxLen; omega) (by omega) (by simp; omega) ?_
  · intro j u hj
    rw [Lib.add_plain, World.cell?_alloc_new]; simpa using hj
  · intro u hu
    obtain ⟨b, _, rfl⟩ := List.mem_map.1 hu
    rfl
  · intro v' w' h1 h2 _
    refine h v' w' ?_ ?_
    · unfold Own8; rw [List.length_append, List.map_append]; exact h1
    · exact ((Kept8.refl B W).alloc hB _).trans (kept8_grown (hown.alloc _) (by simp; omega) h2)
theorem stepApp8 {K : Act → World → Prop} {E : Prop} (hgd : o.guard = none) (s x : Operand) (ho : o.op = .call { callee := .builtin .append, args := #[s, x], argTypes := #[73, 73] })
    (B : Nat) (v : Value) (xs : List UInt8) (hs : a.eval s = v) (hown : Own8 W B v xs) (cells : Array Value) (ys : List UInt8) (m c : Nat) (hx : a.eval x = .slice (some ⟨W.heap.size, 0, none⟩) m c)
    (hm : ys.length = m) (hc : cells = (ys.map byteV).toArray) (hlim : xs.length + m ≤ 1000000000) (hB : B ≤ W.heap.size)
    (h : ∀ v' w', Own8 w' B v' (xs ++ ys) → Kept8 B W w' → K (a.put o.dst v') w') :
    if Region.wanted o (yielded ops a.tmps) = true then Oper.wp Tryd.prog o a (W.alloc (.cells cells 5)).drew K Q else E := by
  obtain ⟨i0, hi, hz0, hz1, hz2⟩ := info_parts info5
  subst hm
  subst hc
  have hw : Region.wanted o (yielded ops a.tmps) = true := by simp [Region.wanted, hgd]
  rw [if_pos hw]
  refine wp_append_own _ s x 73 ho B 5 i0 (.int .u8 0) 1 1 Tryd.underlying73 hi hz0 hz1 hz2 rfl (by decide) v xs.length (xs.map byteV) hs (hown.alloc _).drew ⟨W.heap.size, 0, none⟩ ys.length c (ys.map byteV) hx (by simp) ?_ ?_ (by unfold maxLen; omega) (by omega) (by simp; omega) ?_
  · intro j u hj
    rw [Lib.add_plain]; show (W.alloc _).cell? _ = _; rw [World.cell?_alloc_new]; simpa using hj
  · intro u hu
    obtain ⟨b, _, rfl⟩ := List.mem_map.1 hu
    rfl
  · intro v' w' h1 h2 _
    refine h v' w' ?_ ?_
    · unfold Own8; rw [List.length_append, List.map_append]; exact h1
    · exact ((Kept8.refl B W).alloc hB _).drew.trans (kept8_grown (hown.alloc _).drew (by simp; omega) h2)
theorem run_app8 (B : Nat) (ty : TypeId) (v : Value) (xs : List UInt8) (hown : Own8 W B v xs) (g : Nat) (ys : List UInt8) (c : Nat) (fz : Nat × Nat) (hg : W.heap[g]? = some (.cells (ys.map byteV).toArray 5 fz))
    (hlim : xs.length + ys.length ≤ 1000000000) (hB : B ≤ W.heap.size) :
    ∃ v' w', (Builtin.append_ #[73, 73] ty #[v, .slice (some ⟨g, 0, none⟩) ys.length c]).run Tryd.prog W = .ok v' w' ∧ Own8 w' B v' (xs ++ ys) ∧ Grew v W v' w' := by
  obtain ⟨i0, hi, hz0, hz1, hz2⟩ := info_parts info5
  obtain ⟨v', w', hr, h2, h3, _, h5⟩ := run_append_own_at (P := Tryd.prog) W B 73 ty 5 i0 (.int .u8 0) 1 1 Tryd.underlying73 hi hz0 hz1 hz2 rfl (by decide) v xs.length (xs.map byteV) hown ⟨g, 0, none⟩ ys.length c (ys.map byteV) (by simp) (fun j u hj => by
      rw [Lib.add_plain, cell_of_row W g _ _ _ _ hg]; simpa using hj) (fun u hu => by obtain ⟨b, _, rfl⟩ := List.mem_map.1 hu; rfl) (by unfold maxLen; omega) (by omega) hB
  refine ⟨v', w', hr, ?_, h3, h5.imp id (fun e => ⟨_, e, Nat.le_refl _⟩)⟩
  unfold Own8; rw [List.length_append, List.map_append]; exact h2
theorem wpApp8g (hgd : o.guard = none) (s x : Operand) (ho : o.op = .call { callee := .builtin .append, args := #[s, x], argTypes := #[73, 73] })
    (B : Nat) (v : Value) (xs : List UInt8) (hs : a.eval s = v) (hown : Own8 W B v xs) (g : Nat) (ys : List UInt8) (m c : Nat) (hx : a.eval x = .slice (some ⟨g, 0, none⟩) m c) (fz : Nat × Nat)
    (hm : ys.length = m) (cells : Array Value) (hc : cells = (ys.map byteV).toArray) (hg : W.heap[g]? = some (.cells cells 5 fz)) (hlim : xs.length + m ≤ 1000000000) (hB : B ≤ W.heap.size)
    (h : ∀ v' w', Own8 w' B v' (xs ++ ys) → Grew v W v' w' → wpList Tryd.prog ops Q rest (a.put o.dst v') w') :
    wpList Tryd.prog ops Q (o :: rest) a W := by
  subst hm
  subst hc
  obtain ⟨v', w', hr, h2, h3⟩ := run_app8 (W := W) B o.type v xs hown g ys c fz hg hlim hB
  refine wpList_plain hgd fun K hK => ?_
  unfold Oper.wp execOp
  simp only [ho, resolve, invoke, builtin, Sem.run_bind, Sem.run_pure, Result.andThen_ok, List.map_toArray, List.map_cons, List.map_nil, hs, hx, hr]
  exact hK _ _ (h v' w' h2 h3)
theorem stepApp8g {K : Act → World → Prop} {E : Prop} (hgd : o.guard = none) (s x : Operand) (ho : o.op = .call { callee := .builtin .append, args := #[s, x], argTypes := #[73, 73] })
    (B : Nat) (v : Value) (xs : List UInt8) (hs : a.eval s = v) (hown : Own8 W B v xs) (g : Nat) (ys : List UInt8) (m c : Nat) (hx : a.eval x = .slice (some ⟨g, 0, none⟩) m c) (fz : Nat × Nat)
    (hm : ys.length = m) (cells : Array Value) (hc : cells = (ys.map byteV).toArray) (hg : W.heap[g]? = some (.cells cells 5 fz)) (hlim : xs.length + m ≤ 1000000000) (hB : B ≤ W.heap.size)
    (h : ∀ v' w', Own8 w' B v' (xs ++ ys) → Grew v W v' w' → K (a.put o.dst v') w') :
    if Region.wanted o (yielded ops a.tmps) = true then Oper.wp Tryd.prog o a W K Q else E := by
  have hw : Region.wanted o (yielded ops a.tmps) = true := by simp [Region.wanted, hgd]
  rw [if_pos hw]
  subst hm
  subst hc
  obtain ⟨v', w', hr, h2, h3⟩ := run_app8 (W := W) B o.type v xs hown g ys c fz hg hlim hB
  unfold Oper.wp execOp
  simp only [ho, resolve, invoke, builtin, Sem.run_bind, Sem.run_pure, Result.andThen_ok, List.map_toArray, List.map_cons, List.map_nil, hs, hx, hr]
  exact h v' w' h2 h3
theorem wpApp8s (hgd : o.guard = none) (sl x : Operand) (ho : o.op = .call { callee := .builtin .append, args := #[sl, x], argTypes := #[73, 9] })
    (B : Nat) (v : Value) (xs : List UInt8) (hs : a.eval sl = v) (hown : Own8 W B v xs) (s : ByteArray) (hx : a.eval x = .string s) (ys : List UInt8) (hy : s.data.toList = ys)
    (hlim : xs.length + s.size ≤ 1000000000) (hB : B ≤ W.heap.size)
    (h : ∀ v' w', Own8 w' B v' (xs ++ ys) → Kept8 B W w' → wpList Tryd.prog ops Q rest (a.put o.dst v') w') :
    wpList Tryd.prog ops Q (o :: rest) a W := by
  obtain ⟨i0, hi, hz0, hz1, hz2⟩ := info_parts info5
  subst hy
  refine Lib.wpList_append_own_string _ hgd sl x 73 9 ho B 5 i0 Tryd.underlying73 Tryd.underlying9 hi hz0 hz1 hz2 v xs.length (xs.map byteV) hs hown s hx (by unfold maxLen; omega) (by omega) hB ?_
  intro v' w' h1 h2 _
  refine h v' w' ?_ (kept8_grown hown hB h2)
  unfold Own8
  rw [List.length_append, List.map_append]
  have e : s.data.toList.length = s.size := by simp
  rw [e]; exact h1
end
/-- Bytes as a string. -/
theorem own8_conv {w : World} {B : Nat} {v : Value} {xs : List UInt8} (h : Own8 w B v xs) : (convert 73 9 v).run Tryd.prog w = .ok (.string ⟨xs.toArray⟩) w := by
  by_cases hx : 0 < xs.length
  · obtain ⟨g, c, rfl, hc⟩ := bytes_of_own h hx
    exact conv_row rfl hc
  · obtain rfl : xs = [] := List.eq_nil_of_length_eq_zero (by omega)
    obtain ⟨_, ⟨rfl, _⟩ | ⟨g, cap, cur, rfl, _⟩⟩ := h
    · kernel_rfl
    · exact conv_row rfl (fun k hk => by simp at hk)
end Go.Proofs.YtggojafapieliabDoor
