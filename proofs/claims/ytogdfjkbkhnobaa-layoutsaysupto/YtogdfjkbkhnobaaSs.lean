/-
  A page's text: the walk (layout.Of).
-/
import Derived.Test.YtogdfjkbkhnobaaSr
namespace Go.Proofs.Ytogdfjkbkhnobaa
open Go.Shelf Go.RowKit Go.Lib Go.Sort
set_option maxRecDepth 1000000

def Is32 (S : Nat → Prop) (w : World) (v : Value) (zs : List Int) : Prop := RowS S (fun _ u z => u = .int .i32 z) w v zs
theorem Is32.kept {S : Nat → Prop} {w w' : World} {v : Value} {l : List Int} (h : Is32 S w v l) (hk : AgreeS S w w') : Is32 S w' v l := RowS.kept h hk fun _ _ q => q
/-- A page's text as it is answered. -/
def OfRes (L : List Gy) (w : World) (e : Ending) (w' : World) : Prop := ∃ v1 v2 v3 R, e = .returned (.agg #[v1, v2, v3]) ∧ Lns L R ∧ Is32 (fun b => w.heap.size ≤ b) w' v1 ((txL L R).map fun x => x.1) ∧ Is1 (fun b => w.heap.size ≤ b) w' v2 ((txL L R).map fun x => x.2.1) ∧ Is1 (fun b => w.heap.size ≤ b) w' v3 ((txL L R).map fun x => x.2.2) ∧ Below w.heap.size w w'
/-- One sign more of a text. -/
theorem rns_next {s : ByteArray} {pos : Nat} {rest : List Nat} (h : rns (s.data.toList.drop pos) = some rest) (hp : pos < s.size) : ∃ r rest', rest = r :: rest' ∧ (Utf8.decode s pos).1 = r ∧ 1 ≤ (Utf8.decode s pos).2 ∧ pos + (Utf8.decode s pos).2 ≤ s.size ∧ rns (s.data.toList.drop (pos + (Utf8.decode s pos).2)) = some rest' := by
  have hne : s.data.toList.drop pos ≠ [] := fun q => by
    have := congrArg List.length q
    rw [List.length_drop] at this
    have h2 : s.data.toList.length = s.size := by simp
    simp only [List.length_nil] at this; omega
  rw [rns_step _ hne] at h
  have hd := Lib.decodeL_drop s pos
  have hw := Lib.decodeL_width (s.data.toList.drop pos)
  have hle := Lib.decodeL_le _ hne
  by_cases hb : Bad (s.data.toList.drop pos)
  · rw [if_pos hb] at h; cases h
  · rw [if_neg hb] at h
    rw [hd] at h hw hle
    cases e : rns ((s.data.toList.drop pos).drop (Utf8.decode s pos).2) with
    | none => rw [e] at h; cases h
    | some q =>
      rw [e] at h
      injection h with h
      rw [List.drop_drop] at e
      refine ⟨_, q, h.symm, rfl, ?_, ?_, e⟩
      · omega
      · rw [List.length_drop] at hle
        have h2 : s.data.toList.length = s.size := by simp
        omega
end Go.Proofs.Ytogdfjkbkhnobaa
