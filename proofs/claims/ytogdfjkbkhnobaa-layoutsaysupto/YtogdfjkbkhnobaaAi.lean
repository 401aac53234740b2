/-
  Numbers that a call owns: what appending to them does.
-/
import Derived.Test.YtogdfjkbkhnobaaAp
namespace Go.Proofs.Ytogdfjkbkhnobaa
open Go.RowKit
set_option maxRecDepth 100000

def intV (n : Nat) : Value := .int .i64 (n : Int)
/-- Numbers that a call owns. -/
def Own64 (w : World) (B : Nat) (v : Value) (xs : List Nat) : Prop := w.ownsRow B 3 1 v xs.length (xs.map intV)
theorem info64 : (Try.prog.info? 3).map (fun i => (i.zero, i.size, i.bytes)) = some (some (.int .i64 0), 1, 8) := by kernel_rfl
theorem Own64.nil (w : World) (B : Nat) : Own64 w B (.slice none 0 0) [] := World.ownsRow_nil _ _ _ _
theorem Own64.alloc {w : World} {B : Nat} {v : Value} {xs : List Nat} (h : Own64 w B v xs) (o : Obj) : Own64 (w.alloc o) B v xs := World.ownsRow.alloc h o
theorem Own64.later {w w' : World} {B : Nat} {v : Value} {xs : List Nat} (h : Own64 w B v xs) (hb : Below w.heap.size w w') : Own64 w' B v xs :=
  World.ownsRow.kept h (row := none) ⟨hb.os, hb.tape, hb.output, hb.size, fun k hk _ => hb.block k hk⟩ (by cases v.ownBlock <;> simp)
theorem Own64.below {w w' : World} {B : Nat} {v v' : Value} {xs : List Nat} (h : Own64 w B v xs) (hg : Grew v w v' w') (hB : B ≤ w.heap.size) : Below B w w' :=
  (Below.refl _ _).grown hg.by_ hB (fun q hq => (World.ownsRow.lt h q hq).1)
theorem Own64.cells {w : World} {B : Nat} {v : Value} {xs : List Nat} (h : Own64 w B v xs) : ∃ al c, v = .slice al xs.length c ∧ ∀ (j n : Nat), xs[j]? = some n → ∃ g, al = some ⟨g, 0, none⟩ ∧ B ≤ g ∧ g < w.heap.size ∧ w.cell? ⟨g, j, none⟩ = some (.int .i64 (n : Int)) := by
  have hc := fun g => World.ownsRow.cells h (g := g)
  obtain ⟨_, ⟨rfl, h2⟩ | ⟨g, cap, cur, rfl, h2, h3, _⟩⟩ := h
  · have e : xs = [] := List.eq_nil_of_length_eq_zero h2
    subst e
    exact ⟨none, 0, rfl, fun j y hj => by simp at hj⟩
  · refine ⟨some ⟨g, 0, none⟩, cap, rfl, fun j y hj => ⟨g, rfl, h2, (Array.getElem?_eq_some_iff.1 h3).1, ?_⟩⟩
    have := hc g rfl j (intV y) (by simp [hj])
    rw [Lib.add_plain, Nat.zero_add] at this
    exact this
theorem run_app64 {W : World} (B : Nat) (ty : TypeId) (v : Value) (xs : List Nat) (hown : Own64 W B v xs) (g : Nat) (ys : List Nat) (c : Nat) (hc : ∀ (j n : Nat), ys[j]? = some n → W.cell? ⟨g, j, none⟩ = some (.int .i64 (n : Int)))
    (hlim : xs.length + ys.length ≤ 1000000000) (hB : B ≤ W.heap.size) :
    ∃ v' w', (Builtin.append_ #[26, 26] ty #[v, .slice (some ⟨g, 0, none⟩) ys.length c]).run Try.prog W = .ok v' w' ∧ Own64 w' B v' (xs ++ ys) ∧ Grew v W v' w' := by
  obtain ⟨i0, hi, hz0, hz1, hz2⟩ := info_parts info64
  obtain ⟨v', w', hr, h2, h3, _, h5⟩ := run_append_own_at (P := Try.prog) W B 26 ty 3 i0 (.int .i64 0) 1 8 Try.underlying26 hi hz0 hz1 hz2 rfl (by decide) v xs.length (xs.map intV) hown ⟨g, 0, none⟩ ys.length c (ys.map intV) (by simp) (fun j u hj => by
      rw [Lib.add_plain, Nat.zero_add]
      simp only [List.getElem?_map, Option.map_eq_some_iff] at hj
      obtain ⟨n, hn, rfl⟩ := hj
      exact hc j n hn) (fun u hu => by obtain ⟨b, _, rfl⟩ := List.mem_map.1 hu; rfl) (by unfold maxLen; omega) (by omega) hB
  refine ⟨v', w', hr, ?_, h3, h5.imp id (fun e => ⟨_, e, Nat.le_refl _⟩)⟩
  unfold Own64; rw [List.length_append, List.map_append]; exact h2
section
variable {W : World} {ops : Array Oper} {rest : List Oper} {o : Oper} {a : Act} {Q : Exit → Act → World → Prop}
theorem wpApp64 (hgd : o.guard = none) (s x : Operand) (ho : o.op = .call { callee := .builtin .append, args := #[s, x], argTypes := #[26, 26] })
    (B : Nat) (v : Value) (xs : List Nat) (hs : a.eval s = v) (hown : Own64 W B v xs) (g : Nat) (ys : List Nat) (m c : Nat) (hx : a.eval x = .slice (some ⟨g, 0, none⟩) m c)
    (hm : ys.length = m) (hc : ∀ (j n : Nat), ys[j]? = some n → W.cell? ⟨g, j, none⟩ = some (.int .i64 (n : Int))) (hlim : xs.length + m ≤ 1000000000) (hB : B ≤ W.heap.size)
    (h : ∀ v' w', Own64 w' B v' (xs ++ ys) → Grew v W v' w' → wpList Try.prog ops Q rest (a.put o.dst v') w') :
    wpList Try.prog ops Q (o :: rest) a W := by
  subst hm
  obtain ⟨v', w', hr, h2, h3⟩ := run_app64 (W := W) B o.type v xs hown g ys c hc hlim hB
  refine wpList_plain hgd fun K hK => ?_
  unfold Oper.wp execOp
  simp only [ho, resolve, invoke, builtin, Sem.run_bind, Sem.run_pure, Result.andThen_ok, List.map_toArray, List.map_cons, List.map_nil, hs, hx, hr]
  exact hK _ _ (h v' w' h2 h3)
end
theorem one64 {w : World} {n : Nat} {t : TypeId} : ∀ (j m : Nat), [n][j]? = some m → (w.alloc (.cells #[.int .i64 (n : Int)] t)).cell? ⟨w.heap.size, j, none⟩ = some (.int .i64 (m : Int)) := fun j m hj => by
  match j, hj with
  | 0, hj => simp at hj; subst hj; rw [World.cell?_alloc_at _ _ _ _ rfl]; rfl
  | j + 1, hj => simp at hj
end Go.Proofs.Ytogdfjkbkhnobaa
