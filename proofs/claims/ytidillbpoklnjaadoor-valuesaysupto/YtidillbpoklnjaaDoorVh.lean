/-
  Aids for contracts over values: the cells of one, the block in which a call keeps one.
-/
import Derived.Test.YtidillbpoklnjaaDoorVs
import Derived.Test.YtidillbpoklnjaaDoorMh
import Derived.Deep.RegionWith
import Derived.Deep.CutRange
import Derived.Deep.CutBlock
import Derived.BigRegion
namespace Go.Proofs.YtidillbpoklnjaaDoor
open Go.RowKit
set_option maxRecDepth 100000

theorem RepN.inv {d : Nat} {w : World} {v : V} {cs : List Value} (h : RepN d w v cs) : ∃ e, d = e + 1 := by
  cases d with
  | zero => exact h.elim
  | succ e => exact ⟨e, rfl⟩
/-- The cells of a value, one by one. -/
theorem rep_cells {d : Nat} {w : World} {v : V} {cs : List Value} {b o : Nat} (h : RepN d w v cs) (hc : CellsAt w b o cs) :
    ∃ k n s al ll cl af lf cf, cs = [.int .i64 k, .int .i64 n, .string s, .slice al ll cl, .slice af lf cf] ∧ w.cell? ⟨b, o, none⟩ = some (.int .i64 k) ∧ w.cell? ⟨b, o + 1, none⟩ = some (.int .i64 n) ∧ w.cell? ⟨b, o + 2, none⟩ = some (.string s) ∧ w.cell? ⟨b, o + 3, none⟩ = some (.slice al ll cl) ∧ w.cell? ⟨b, o + 4, none⟩ = some (.slice af lf cf) := by
  obtain ⟨e, rfl⟩ := h.inv
  obtain ⟨al, af, cl, cf, rfl, _⟩ := h
  exact ⟨_, _, _, _, _, _, _, _, _, rfl, hc 0 _ rfl, hc 1 _ rfl, hc 2 _ rfl, hc 3 _ rfl, hc 4 _ rfl⟩
/-- The whole block of a value that a call has boxed. -/
abbrev BoxV (w : World) (b : Nat) (v : V) (al af : Option Addr) (cl cf : Nat) : Prop := At w b 64 #[.int .i64 v.k, .int .i64 v.n, .string v.s, .slice al v.l.length cl, .slice af v.f.length cf]

/-- The answer to a question. -/
def AnsB (e : Ending) (P : Prop) : Prop := (e = .returned (.bool true) ∧ P) ∨ (e = .returned (.bool false) ∧ ¬ P)
theorem AnsB.yes {P : Prop} {r : Bool} (h : P) (hr : r = true := by rfl) : AnsB (.returned (.bool r)) P := by subst hr; exact .inl ⟨rfl, h⟩
theorem AnsB.no {P : Prop} {r : Bool} (h : ¬ P) (hr : r = false := by rfl) : AnsB (.returned (.bool r)) P := by subst hr; exact .inr ⟨rfl, h⟩
theorem AnsB.of {P : Prop} {r : Bool} (h : r = true ↔ P) : AnsB (.returned (.bool r)) P := by
  cases r
  · exact .inr ⟨rfl, fun hp => by have := h.2 hp; cases this⟩
  · exact .inl ⟨rfl, h.1 rfl⟩
theorem AnsB.bool {P : Prop} {e : Ending} (h : AnsB e P) : ∃ r : Bool, e = .returned (.bool r) ∧ (r = true ↔ P) := by
  rcases h with ⟨h, hp⟩ | ⟨h, hp⟩
  · exact ⟨true, h, iff_of_true rfl hp⟩
  · exact ⟨false, h, iff_of_false (by simp) hp⟩
end Go.Proofs.YtidillbpoklnjaaDoor
