/-
  Joined: Kd, Ke, Kf.
-/
import Derived.Test.YtflcibmjblioaaaGreatDoorAp
import Derived.Test.YtflcibmjblioaaaGreatDoorPa
import Derived.Laws.EntriesVeiled
import Derived.Lib.Builder
import Derived.Lib.Walk
import Derived.Laws.Externs
import Derived.Lib.UnsafeStr

/-
  Texts that are built piece by piece (strings.Builder).
-/
namespace Go.Proofs.YtflcibmjblioaaaGreatDoor
open Go.RowKit
set_option maxRecDepth 100000

/-- A builder's block. -/
abbrev BdC (w : World) (P : Nat) (ad v : Value) : Prop := At w P 83 #[ad, v]
set_option maxHeartbeats 1000000 in
theorem copyCheck_says (P : Nat) (ad v : Value) (w : World) (h : ad = .pointer none ∨ ad = .pointer (some ⟨P, 0, none⟩)) (hA : BdC w P ad v) :
    Calls Tryz.prog 62 #[.pointer (some ⟨P, 0, none⟩)] w fun e w' => e = .returned (.tuple #[]) ∧ BdC w' P (.pointer (some ⟨P, 0, none⟩)) v ∧ KeepBut P w w' := by
  have c0 := hA.cell 0
  have f0 := hA.free 0
  have z0 := hA.lt
  simp at c0
  have HA := hid hA
  clear hA
  obtain ⟨j, hj, hjs⟩ := Option.map_eq_some_iff.1 (show (Tryz.prog.info? 83).map (·.size) = some 2 by kernel_rfl)
  have hsh : w.shape? P = some (83, 2) := by have q := HA.out; unfold BdC At at q; simp [World.shape?, q]
  rcases h with rfl | rfl
  · go_enter Tryz.func62, Tryz.ntmps62
    go_wp2
    rw [Lib.run_to_unsafe w ⟨P, 0, none⟩ Tryz.underlying80 Tryz.underlying146 hj (by rw [hjs]; decide) hsh (Nat.zero_lt_succ 1)]
    simp only [Result.andThen]
    rw [Oper.upon_value]
    go_wp2
    rw [run_callFunc_extern Tryz.func103 (by kernel_rfl) (by kernel_rfl) (by kernel_rfl) (e := Extern.AbiNoEscape.same) (by kernel_rfl)]
    rw [Lib.run_noEscape]
    simp only [Result.andThen]
    rw [Oper.upon_value]
    go_wp2
    rw [Lib.run_from_unsafe w ⟨P, 0, none⟩ Tryz.underlying146 Tryz.underlying80 hj hsh (by kernel_rfl)]
    simp only [Result.andThen]
    rw [Oper.upon_value]
    go_wp2
    go_end0
    refine ⟨rfl, ?_, (KeepBut.refl P w).set 0 _⟩
    unfold BdC At
    rw [setCell_eq_setRow w P 0 _ _ (0, 0) _ HA.out]
    exact setRow_heap w P _ _ _ _ HA.out
  · go_enter Tryz.func62, Tryz.ntmps62
    go_wp2
    rw [Lib.run_neq_ptr_same _ _ Tryz.underlying80 hj]
    go_wp2
    go_end0
    exact ⟨rfl, HA.out, KeepBut.refl P w⟩
theorem own8_sl {w : World} {B : Nat} {v : Value} {xs : List UInt8} (h : Own8 w B v xs) : ∃ a n k, v = Value.slice a n k := by
  rcases h.2 with ⟨e, _⟩ | ⟨g, cap, cur, e, _⟩
  · exact ⟨_, _, _, e⟩
  · exact ⟨_, _, _, e⟩
end Go.Proofs.YtflcibmjblioaaaGreatDoor

/-
  How long a text is that is built piece by piece.
-/
namespace Go.Proofs.YtflcibmjblioaaaGreatDoor
open Go.RowKit
set_option maxRecDepth 100000

theorem own8_len {w : World} {B : Nat} {v : Value} {xs : List UInt8} (h : Own8 w B v xs) : ∃ a k, v = Value.slice a xs.length k := by
  rcases h.2 with ⟨e, e0⟩ | ⟨g, cap, cur, e, _⟩
  · exact ⟨none, 0, by rw [e, e0]⟩
  · exact ⟨_, _, e⟩
set_option maxHeartbeats 1000000 in
theorem blen_says (P B : Nat) (ad v : Value) (xs : List UInt8) (w : World) (hA : BdC w P ad v) (hO : Own8 w B v xs) :
    Calls Tryz.prog 37 #[.pointer (some ⟨P, 0, none⟩)] w fun e w' => e = .returned (.int .i64 xs.length) ∧ w' = w := by
  obtain ⟨a, k, e⟩ := own8_len hO
  subst e
  have c1 := hA.cell 1
  have f1 := hA.free 1
  have z1 := hA.lt
  simp at c1
  clear hA hO
  go_enter Tryz.func37, Tryz.ntmps37
  go_wp2
  go_ret
  exact ⟨rfl, rfl⟩
end Go.Proofs.YtflcibmjblioaaaGreatDoor

/-
  The text that was built piece by piece.
-/
namespace Go.Proofs.YtflcibmjblioaaaGreatDoor
open Go.RowKit
set_option maxRecDepth 100000

set_option maxHeartbeats 2000000 in
theorem bstring_says (P B : Nat) (ad v : Value) (xs : List UInt8) (w : World) (h0 : xs ≠ []) (hA : BdC w P ad v) (hO : Own8 w B v xs) :
    Calls Tryz.prog 41 #[.pointer (some ⟨P, 0, none⟩)] w fun e w' => e = .returned (.string ⟨xs.toArray⟩) ∧ Below B w w' := by
  have hl0 : xs.length ≠ 0 := by simpa using h0
  obtain ⟨g, cap, cur, rfl, hbg, hg, hnc, hcm, hcs, htake⟩ : ∃ g cap cur, v = .slice (some ⟨g, 0, none⟩) xs.length cap ∧ B ≤ g ∧ w.heap[g]? = some (.cells cur 5 (0, 0)) ∧ xs.length ≤ cap ∧ cap ≤ maxLen ∧ cur.size = cap * 1 ∧ cur.toList.take (xs.length * 1) = xs.map byteV := by
    rcases hO.2 with ⟨_, hz⟩ | ⟨g, cap, cur, hv, r⟩
    · exact absurd hz hl0
    · exact ⟨g, cap, cur, hv, r⟩
  have c1 : w.drew.cell? ⟨P, 1, none⟩ = some (.slice (some ⟨g, 0, none⟩) xs.length cap) := by
    have := hA.cell 1
    simp at this
    exact this
  have hSD : (Builtin.unsafeSliceData_ #[81] 115 #[.slice (some ⟨g, 0, none⟩) xs.length cap]).run Tryz.prog w.drew = .ok (.pointer (some ⟨g, 0, none⟩)) w.drew :=
    Lib.run_unsafeSliceData_row _ _ _ _ _ _ (by omega)
  have hUS : (Builtin.unsafeString_ #[115, 3] 9 #[.pointer (some ⟨g, 0, none⟩), .int .i64 xs.length]).run Tryz.prog w.drew = .ok (.string ⟨xs.toArray⟩) (w.drew.freeze ⟨g, 0, none⟩ xs.length) := by
    refine Lib.run_unsafeString_row w.drew 115 3 9 5 (by kernel_rfl) (by kernel_rfl) g cur.size (by have hg' : w.drew.heap[g]? = some (.cells cur 5 (0, 0)) := hg; simp [World.shape?, hg']) xs h0 (by omega) (by unfold maxLen at hcm; omega) ?_
    intro j x hx
    have := hO.cells (g := g) rfl j (.int .u8 x.toNat) (by simp [byteV, hx])
    exact this
  clear hO hA htake
  go_enter Tryz.func41, Tryz.ntmps41
  go_wp2
  go_region
  all_goals (go_wp2; go_ret; exact ⟨rfl, Lib.below_freeze (Below.drew (Below.refl B w)) (p := ⟨g, 0, none⟩) hbg _⟩)
set_option maxHeartbeats 2000000 in
/-- Nothing was written. -/
theorem bstring_none (P B : Nat) (ad : Value) (w : World) (hA : BdC w P ad (.slice none 0 0)) :
    Calls Tryz.prog 41 #[.pointer (some ⟨P, 0, none⟩)] w fun e w' => e = .returned (.string ⟨#[]⟩) ∧ Below B w w' := by
  have hUS : ∀ (W : World) (q : Option Addr), (Builtin.unsafeString_ #[115, 3] 9 #[.pointer q, .int .i64 0]).run Tryz.prog W = .ok (.string .empty) W := fun W q => Lib.run_unsafeString_none W _ _ _ q
  have c1 : w.drew.cell? ⟨P, 1, none⟩ = some (.slice none 0 0) := by
    have := hA.cell 1
    simp at this
    exact this
  have hSD : (Builtin.unsafeSliceData_ #[81] 115 #[.slice none 0 0]).run Tryz.prog w.drew = .ok (.pointer none) w.drew := rfl
  clear hA
  go_enter Tryz.func41, Tryz.ntmps41
  go_wp2
  go_region
  all_goals (go_wp2; go_ret; exact ⟨rfl, Below.drew (Below.refl B w)⟩)
end Go.Proofs.YtflcibmjblioaaaGreatDoor
