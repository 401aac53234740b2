/-
  Rows that are made, and written into; what TopLines asks at each glyph.
-/
import Derived.Test.YtogdfjkbkhnobaaSw
import Derived.Laws.MakeOwn
namespace Go.Proofs.Ytogdfjkbkhnobaa
open Go.Shelf Go.RowKit Go.Lib Go.Sort
set_option maxRecDepth 1000000

/-- A row of n cells. -/
def arrA (f : Nat → Value) (n : Nat) : Array Value := ((List.range n).map f).toArray
theorem arrA_size (f : Nat → Value) (n : Nat) : (arrA f n).size = n := by simp [arrA]
theorem arrA_at (f : Nat → Value) {n i : Nat} (h : i < n) : (arrA f n)[i]? = some (f i) := by
  simp [arrA, h]
theorem arrA_set (f : Nat → Value) {n i : Nat} (v : Value) : (arrA f n).setIfInBounds i v = arrA (fun x => if x = i then v else f x) n := by
  apply Array.ext_getElem?
  intro k
  rw [Array.getElem?_setIfInBounds, arrA_size]
  by_cases hk : k < n
  · rw [arrA_at _ hk, arrA_at _ hk]
    by_cases e : i = k
    · subst e; simp [hk]
    · rw [if_neg e, if_neg (fun q => e q.symm)]
  · have e1 : (arrA f n)[k]? = none := by rw [Array.getElem?_eq_none_iff, arrA_size]; omega
    have e2 : (arrA (fun x => if x = i then v else f x) n)[k]? = none := by rw [Array.getElem?_eq_none_iff, arrA_size]; omega
    rw [e1, e2]
    by_cases e : i = k
    · subst e; simp [hk]
    · rw [if_neg e]
theorem arrA_congr {f g : Nat → Value} {n : Nat} (h : ∀ i, i < n → f i = g i) : arrA f n = arrA g n := by
  unfold arrA
  congr 1
  exact List.map_congr_left fun i hi => h i (List.mem_range.1 hi)
theorem made_one (z : Value) (n : Nat) : madeCells #[z] n = arrA (fun _ => z) n := by
  apply Array.ext
  · simp [madeCells, arrA]
  · intro k h1 h2
    simp [madeCells, arrA, Nat.mod_one]
theorem At.set1 {w : World} {b i : Nat} {t : TypeId} {cs : Array Value} (h : At w b t cs) (v : Value) : At (w.setCell ⟨b, i, none⟩ v) b t (cs.setIfInBounds i v) := by
  have q : w.heap[b]? = some (.cells cs t (0, 0)) := h
  unfold At World.setCell
  simp [Array.getElem?_modify, q]
/-- Which were met. -/
def seenA (n : Nat) (V : List Int) : Array Value := arrA (fun x => .bool (decide ((x : Int) ∈ V))) n
theorem seenA_push {n : Nat} {V : List Int} {g : Int} (h0 : 0 ≤ g) : (seenA n V).setIfInBounds g.toNat (.bool true) = seenA n (V ++ [g]) := by
  unfold seenA
  rw [arrA_set]
  refine arrA_congr fun i _ => ?_
  by_cases e : i = g.toNat
  · rw [if_pos e]
    have : (i : Int) ∈ V ++ [g] := by
      rw [List.mem_append, List.mem_singleton]
      right; omega
    rw [decide_eq_true this]
  · rw [if_neg e]
    have : ((i : Int) ∈ V) = ((i : Int) ∈ V ++ [g]) := by
      rw [List.mem_append, List.mem_singleton]
      apply propext
      constructor
      · exact .inl
      · rintro (q | q)
        · exact q
        · exfalso; omega
    simp only [this]
theorem seenA_at {n : Nat} {V : List Int} {g : Int} (h0 : 0 ≤ g) (h1 : g < n) (hv : g ∉ V) : (seenA n V)[g.toNat]? = some (.bool false) := by
  unfold seenA
  rw [arrA_at _ (by omega)]
  have e : ((g.toNat : Nat) : Int) = g := by omega
  rw [e, decide_eq_false hv]
theorem infoB : (Try.prog.info? 4).map (fun i => (i.zero, i.size, i.bytes)) = some (some (.bool false), 1, 1) := by kernel_rfl
theorem mk_seen (w : World) (n : Nat) (hn : n ≤ 1000) : (Instr.makeSlice 45 (.int .i64 n) (.int .i64 n)).run Try.prog w = .ok (.slice (some ⟨w.heap.size, 0, none⟩) n n) (w.alloc (.cells (seenA n []) 4)) := by
  obtain ⟨i, hi, h0, h1, h2⟩ := info_parts infoB
  have q := run_make (P := Try.prog) w 45 4 i (.bool false) Try.underlying45 hi h0 .i64 .i64 (n : Int) (n : Int) (by omega) (Int.le_refl _) (by rw [h2]; omega) (by omega)
  rw [q, h1, Int.toNat_natCast, Nat.mul_one]
  have e : madeCells (Value.bool false).cells n = seenA n [] := by
    show madeCells #[.bool false] n = _
    rw [made_one]
    unfold seenA
    exact arrA_congr fun i _ => by simp
  rw [e]
/-- The one ahead of a place in a line. -/
def lastI (r : List Int) (p : Nat) : Int := if p = 0 then -1 else r[p - 1]?.getD 0
end Go.Proofs.Ytogdfjkbkhnobaa
