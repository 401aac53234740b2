/-
  Names of signs: the table.
-/
import Derived.Test.YtggojafapieliabDoorRows
import Derived.Maps.OwnSet
import Derived.Maps.OwnOps
import Derived.WalkKit
import Derived.Handy
import Derived.Carry
namespace Go.Proofs.YtggojafapieliabDoor
open Go.RowKit Go.WideMaps Go.Maps
set_option maxRecDepth 100000

/-- Signs that have a word for a name. -/
def tbl : List (List UInt8 × Int) := [([115, 112, 97, 99, 101], 32), ([112, 101, 114, 105, 111, 100], 46), ([99, 111, 109, 109, 97], 44), ([104, 121, 112, 104, 101, 110], 45), ([99, 111, 108, 111, 110], 58), ([122, 101, 114, 111], 48), ([111, 110, 101], 49), ([116, 119, 111], 50), ([116, 104, 114, 101, 101], 51), ([102, 111, 117, 114], 52), ([102, 105, 118, 101], 53), ([115, 105, 120], 54), ([115, 101, 118, 101, 110], 55), ([101, 105, 103, 104, 116], 56), ([110, 105, 110, 101], 57)]
/-- The last one of a name. -/
def lk : List (List UInt8 × Int) → List UInt8 → Option Int
  | [], _ => none
  | p :: ps, k => match lk ps k with
    | some v => some v
    | none => if p.1 = k then some p.2 else none
def putAll (D : DataW Unit) (ps : List (List UInt8 × Int)) : DataW Unit := ps.foldl (fun D p => D.put (.string p.1) (.lit (.int .i32 p.2))) D
theorem isMap_put {D : DataW Unit} (h : IsMap D) (k : Lit) (d : DataW Unit) : IsMap (D.put k d) := by
  obtain ⟨es, rfl⟩ := h
  exact ⟨_, rfl⟩
theorem keyLit (k : List UInt8) : WideAt.IsKeyLit (.string k) := by first | trivial | exact .intro | simp [WideAt.IsKeyLit]
theorem putAll_look : ∀ (ps : List (List UInt8 × Int)) (D : DataW Unit) (k : List UInt8) (z : DataW Unit), IsMap D →
    Maps.has (putAll D ps) (.string k) = ((lk ps k).isSome || Maps.has D (.string k)) ∧ (putAll D ps).atKey (.string k) z = (match lk ps k with | some v => .lit (.int .i32 v) | none => D.atKey (.string k) z)
  | [], D, k, z, _ => by simp [putAll, lk]
  | p :: ps, D, k, z, h => by
    have q := putAll_look ps (D.put (.string p.1) (.lit (.int .i32 p.2))) k z (isMap_put h _ _)
    have e : putAll D (p :: ps) = putAll (D.put (.string p.1) (.lit (.int .i32 p.2))) ps := rfl
    have el : lk (p :: ps) k = (match lk ps k with | some v => some v | none => if p.1 = k then some p.2 else none) := rfl
    rw [e, q.1, q.2, el]
    cases hl : lk ps k with
    | some v => simp
    | none =>
      by_cases hk : p.1 = k
      · subst hk
        rw [if_pos rfl, has_put_same h (keyLit _), atKey_put_same h (keyLit _)]
        simp
      · have hne : (Lit.string k) ≠ .string p.1 := fun e => hk (by injection e with e; exact e.symm)
        rw [if_neg hk, has_put_other hne, atKey_put_other hne]
        simp
theorem hid' {p : Prop} (h : p) : Hid p := h
theorem lawS : Keyed Tryd.prog 9 := string_keyed Tryd.underlying9
theorem zeroRune (w : World) : (zeroValue 21).run Tryd.prog w = .ok (.int .i32 0) w := by kernel_rfl
def tblD : DataW Unit := putAll (.map []) tbl
theorem tbl_has (k : List UInt8) : Maps.has tblD (.string k) = (lk tbl k).isSome := by
  have q := (putAll_look tbl (.map []) k .nil ⟨_, rfl⟩).1
  unfold tblD
  rw [q]
  have : Maps.has (DataW.map [] : DataW Unit) (.string k) = false := rfl
  rw [this, Bool.or_false]
theorem tbl_at (k : List UInt8) : tblD.atKey (.string k) (.lit (.int .i32 0)) = .lit (.int .i32 ((lk tbl k).getD 0)) := by
  have q := (putAll_look tbl (.map []) k (.lit (.int .i32 0)) ⟨_, rfl⟩).2
  unfold tblD
  rw [q]
  cases lk tbl k with
  | some v => rfl
  | none => rfl
set_option maxHeartbeats 4000000 in
theorem called_says (w : World) : Calls Tryd.prog 36 #[] w fun e w' => e = .returned (.map (some w.heap.size)) ∧ w'.ownsMap Tryd.prog 9 (plainElem (H := Unit) Tryd.prog 21) w.heap.size 15 tblD ∧ Below w.heap.size w w' := by
  have hmm := @run_makeMap Tryd.prog
  have o0 : (w.alloc (.map #[] 0)).ownsMap Tryd.prog 9 (plainElem (H := Unit) Tryd.prog 21) w.heap.size 0 (.map []) := World.ownsMap_made _ _ _ _
  have b0 : Below w.heap.size w (w.alloc (.map #[] 0)) := (Below.refl _ _).alloc (Nat.le_refl _) _
  obtain ⟨w1, h1, o1, g1⟩ := o0.update lawS Tryd.underlying83 (by unfold maxLen; decide) (key := .string ⟨#[115, 112, 97, 99, 101]⟩) (keyOf_string_mk Tryd.underlying9 (by unfold maxLen; decide)) (val := .int .i32 32) (plainElem_int Tryd.underlying21 (by decide))
  have b1 := b0.grown g1 b0.size (fun j hj => by cases hj; exact Nat.le_refl _)
  clear o0 b0 g1
  obtain ⟨w2, h2, o2, g2⟩ := o1.update lawS Tryd.underlying83 (by unfold maxLen; decide) (key := .string ⟨#[112, 101, 114, 105, 111, 100]⟩) (keyOf_string_mk Tryd.underlying9 (by unfold maxLen; decide)) (val := .int .i32 46) (plainElem_int Tryd.underlying21 (by decide))
  have b2 := b1.grown g2 b1.size (fun j hj => by cases hj; exact Nat.le_refl _)
  clear o1 b1 g2
  obtain ⟨w3, h3, o3, g3⟩ := o2.update lawS Tryd.underlying83 (by unfold maxLen; decide) (key := .string ⟨#[99, 111, 109, 109, 97]⟩) (keyOf_string_mk Tryd.underlying9 (by unfold maxLen; decide)) (val := .int .i32 44) (plainElem_int Tryd.underlying21 (by decide))
  have b3 := b2.grown g3 b2.size (fun j hj => by cases hj; exact Nat.le_refl _)
  clear o2 b2 g3
  obtain ⟨w4, h4, o4, g4⟩ := o3.update lawS Tryd.underlying83 (by unfold maxLen; decide) (key := .string ⟨#[104, 121, 112, 104, 101, 110]⟩) (keyOf_string_mk Tryd.underlying9 (by unfold maxLen; decide)) (val := .int .i32 45) (plainElem_int Tryd.underlying21 (by decide))
  have b4 := b3.grown g4 b3.size (fun j hj => by cases hj; exact Nat.le_refl _)
  clear o3 b3 g4
  obtain ⟨w5, h5, o5, g5⟩ := o4.update lawS Tryd.underlying83 (by unfold maxLen; decide) (key := .string ⟨#[99, 111, 108, 111, 110]⟩) (keyOf_string_mk Tryd.underlying9 (by unfold maxLen; decide)) (val := .int .i32 58) (plainElem_int Tryd.underlying21 (by decide))
  have b5 := b4.grown g5 b4.size (fun j hj => by cases hj; exact Nat.le_refl _)
  clear o4 b4 g5
  obtain ⟨w6, h6, o6, g6⟩ := o5.update lawS Tryd.underlying83 (by unfold maxLen; decide) (key := .string ⟨#[122, 101, 114, 111]⟩) (keyOf_string_mk Tryd.underlying9 (by unfold maxLen; decide)) (val := .int .i32 48) (plainElem_int Tryd.underlying21 (by decide))
  have b6 := b5.grown g6 b5.size (fun j hj => by cases hj; exact Nat.le_refl _)
  clear o5 b5 g6
  obtain ⟨w7, h7, o7, g7⟩ := o6.update lawS Tryd.underlying83 (by unfold maxLen; decide) (key := .string ⟨#[111, 110, 101]⟩) (keyOf_string_mk Tryd.underlying9 (by unfold maxLen; decide)) (val := .int .i32 49) (plainElem_int Tryd.underlying21 (by decide))
  have b7 := b6.grown g7 b6.size (fun j hj => by cases hj; exact Nat.le_refl _)
  clear o6 b6 g7
  obtain ⟨w8, h8, o8, g8⟩ := o7.update lawS Tryd.underlying83 (by unfold maxLen; decide) (key := .string ⟨#[116, 119, 111]⟩) (keyOf_string_mk Tryd.underlying9 (by unfold maxLen; decide)) (val := .int .i32 50) (plainElem_int Tryd.underlying21 (by decide))
  have b8 := b7.grown g8 b7.size (fun j hj => by cases hj; exact Nat.le_refl _)
  clear o7 b7 g8
  obtain ⟨w9, h9, o9, g9⟩ := o8.update lawS Tryd.underlying83 (by unfold maxLen; decide) (key := .string ⟨#[116, 104, 114, 101, 101]⟩) (keyOf_string_mk Tryd.underlying9 (by unfold maxLen; decide)) (val := .int .i32 51) (plainElem_int Tryd.underlying21 (by decide))
  have b9 := b8.grown g9 b8.size (fun j hj => by cases hj; exact Nat.le_refl _)
  clear o8 b8 g9
  obtain ⟨w10, h10, o10, g10⟩ := o9.update lawS Tryd.underlying83 (by unfold maxLen; decide) (key := .string ⟨#[102, 111, 117, 114]⟩) (keyOf_string_mk Tryd.underlying9 (by unfold maxLen; decide)) (val := .int .i32 52) (plainElem_int Tryd.underlying21 (by decide))
  have b10 := b9.grown g10 b9.size (fun j hj => by cases hj; exact Nat.le_refl _)
  clear o9 b9 g10
  obtain ⟨w11, h11, o11, g11⟩ := o10.update lawS Tryd.underlying83 (by unfold maxLen; decide) (key := .string ⟨#[102, 105, 118, 101]⟩) (keyOf_string_mk Tryd.underlying9 (by unfold maxLen; decide)) (val := .int .i32 53) (plainElem_int Tryd.underlying21 (by decide))
  have b11 := b10.grown g11 b10.size (fun j hj => by cases hj; exact Nat.le_refl _)
  clear o10 b10 g11
  obtain ⟨w12, h12, o12, g12⟩ := o11.update lawS Tryd.underlying83 (by unfold maxLen; decide) (key := .string ⟨#[115, 105, 120]⟩) (keyOf_string_mk Tryd.underlying9 (by unfold maxLen; decide)) (val := .int .i32 54) (plainElem_int Tryd.underlying21 (by decide))
  have b12 := b11.grown g12 b11.size (fun j hj => by cases hj; exact Nat.le_refl _)
  clear o11 b11 g12
  obtain ⟨w13, h13, o13, g13⟩ := o12.update lawS Tryd.underlying83 (by unfold maxLen; decide) (key := .string ⟨#[115, 101, 118, 101, 110]⟩) (keyOf_string_mk Tryd.underlying9 (by unfold maxLen; decide)) (val := .int .i32 55) (plainElem_int Tryd.underlying21 (by decide))
  have b13 := b12.grown g13 b12.size (fun j hj => by cases hj; exact Nat.le_refl _)
  clear o12 b12 g13
  obtain ⟨w14, h14, o14, g14⟩ := o13.update lawS Tryd.underlying83 (by unfold maxLen; decide) (key := .string ⟨#[101, 105, 103, 104, 116]⟩) (keyOf_string_mk Tryd.underlying9 (by unfold maxLen; decide)) (val := .int .i32 56) (plainElem_int Tryd.underlying21 (by decide))
  have b14 := b13.grown g14 b13.size (fun j hj => by cases hj; exact Nat.le_refl _)
  clear o13 b13 g14
  obtain ⟨w15, h15, o15, g15⟩ := o14.update lawS Tryd.underlying83 (by unfold maxLen; decide) (key := .string ⟨#[110, 105, 110, 101]⟩) (keyOf_string_mk Tryd.underlying9 (by unfold maxLen; decide)) (val := .int .i32 57) (plainElem_int Tryd.underlying21 (by decide))
  have b15 := b14.grown g15 b14.size (fun j hj => by cases hj; exact Nat.le_refl _)
  clear o14 b14 g15
  have HO := hid' o15
  clear o15
  go_enter Tryd.func36, Tryd.ntmps36
  go_wp2_with fail
  go_ret
  exact ⟨rfl, HO.out, b15⟩
end Go.Proofs.YtggojafapieliabDoor
