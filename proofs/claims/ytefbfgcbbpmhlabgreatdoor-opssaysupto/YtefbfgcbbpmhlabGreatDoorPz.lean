/-
  Joined: Ke, Kf, Pz.
-/
import Derived.Test.YtefbfgcbbpmhlabGreatDoorOl
import Derived.Lib.UnsafeStr
import Derived.Test.YtefbfgcbbpmhlabGreatDoorVu

/-
  How long a text is that is built piece by piece.
-/
namespace Go.Proofs.YtefbfgcbbpmhlabGreatDoor
open Go.RowKit
set_option maxRecDepth 100000

theorem own8_len {w : World} {B : Nat} {v : Value} {xs : List UInt8} (h : Own8 w B v xs) : ∃ a k, v = Value.slice a xs.length k := by
  rcases h.2 with ⟨e, e0⟩ | ⟨g, cap, cur, e, _⟩
  · exact ⟨none, 0, by rw [e, e0]⟩
  · exact ⟨_, _, e⟩
set_option maxHeartbeats 1000000 in
theorem blen_says (P B : Nat) (ad v : Value) (xs : List UInt8) (w : World) (hA : BdC w P ad v) (hO : Own8 w B v xs) :
    Calls Tryz.prog 83 #[.pointer (some ⟨P, 0, none⟩)] w fun e w' => e = .returned (.int .i64 xs.length) ∧ w' = w := by
  obtain ⟨a, k, e⟩ := own8_len hO
  subst e
  have c1 := hA.cell 1
  have f1 := hA.free 1
  have z1 := hA.lt
  simp at c1
  clear hA hO
  go_enter Tryz.func83, Tryz.ntmps83
  go_wp2
  go_ret
  exact ⟨rfl, rfl⟩
end Go.Proofs.YtefbfgcbbpmhlabGreatDoor

/-
  The text that was built piece by piece.
-/
namespace Go.Proofs.YtefbfgcbbpmhlabGreatDoor
open Go.RowKit
set_option maxRecDepth 100000

set_option maxHeartbeats 2000000 in
theorem bstring_says (P B : Nat) (ad v : Value) (xs : List UInt8) (w : World) (h0 : xs ≠ []) (hA : BdC w P ad v) (hO : Own8 w B v xs) :
    Calls Tryz.prog 85 #[.pointer (some ⟨P, 0, none⟩)] w fun e w' => e = .returned (.string ⟨xs.toArray⟩) ∧ Below B w w' := by
  have hl0 : xs.length ≠ 0 := by simpa using h0
  obtain ⟨g, cap, cur, rfl, hbg, hg, hnc, hcm, hcs, htake⟩ : ∃ g cap cur, v = .slice (some ⟨g, 0, none⟩) xs.length cap ∧ B ≤ g ∧ w.heap[g]? = some (.cells cur 5 (0, 0)) ∧ xs.length ≤ cap ∧ cap ≤ maxLen ∧ cur.size = cap * 1 ∧ cur.toList.take (xs.length * 1) = xs.map byteV := by
    rcases hO.2 with ⟨_, hz⟩ | ⟨g, cap, cur, hv, r⟩
    · exact absurd hz hl0
    · exact ⟨g, cap, cur, hv, r⟩
  have c1 : w.drew.cell? ⟨P, 1, none⟩ = some (.slice (some ⟨g, 0, none⟩) xs.length cap) := by
    have := hA.cell 1
    simp at this
    exact this
  have hSD : (Builtin.unsafeSliceData_ #[149] 198 #[.slice (some ⟨g, 0, none⟩) xs.length cap]).run Tryz.prog w.drew = .ok (.pointer (some ⟨g, 0, none⟩)) w.drew :=
    Lib.run_unsafeSliceData_row _ _ _ _ _ _ (by omega)
  have hUS : (Builtin.unsafeString_ #[198, 3] 9 #[.pointer (some ⟨g, 0, none⟩), .int .i64 xs.length]).run Tryz.prog w.drew = .ok (.string ⟨xs.toArray⟩) (w.drew.freeze ⟨g, 0, none⟩ xs.length) := by
    refine Lib.run_unsafeString_row w.drew 198 3 9 5 (by kernel_rfl) (by kernel_rfl) g cur.size (by have hg' : w.drew.heap[g]? = some (.cells cur 5 (0, 0)) := hg; simp [World.shape?, hg']) xs h0 (by omega) (by unfold maxLen at hcm; omega) ?_
    intro j x hx
    have := hO.cells (g := g) rfl j (.int .u8 x.toNat) (by simp [byteV, hx])
    exact this
  clear hO hA htake
  go_enter Tryz.func85, Tryz.ntmps85
  go_wp2
  go_region
  all_goals (go_wp2; go_ret; exact ⟨rfl, Lib.below_freeze (Below.drew (Below.refl B w)) (p := ⟨g, 0, none⟩) hbg _⟩)
set_option maxHeartbeats 2000000 in
/-- Nothing was written. -/
theorem bstring_none (P B : Nat) (ad : Value) (w : World) (hA : BdC w P ad (.slice none 0 0)) :
    Calls Tryz.prog 85 #[.pointer (some ⟨P, 0, none⟩)] w fun e w' => e = .returned (.string ⟨#[]⟩) ∧ Below B w w' := by
  have hUS : ∀ (W : World) (q : Option Addr), (Builtin.unsafeString_ #[198, 3] 9 #[.pointer q, .int .i64 0]).run Tryz.prog W = .ok (.string .empty) W := fun W q => Lib.run_unsafeString_none W _ _ _ q
  have c1 : w.drew.cell? ⟨P, 1, none⟩ = some (.slice none 0 0) := by
    have := hA.cell 1
    simp at this
    exact this
  have hSD : (Builtin.unsafeSliceData_ #[149] 198 #[.slice none 0 0]).run Tryz.prog w.drew = .ok (.pointer none) w.drew := rfl
  clear hA
  go_enter Tryz.func85, Tryz.ntmps85
  go_wp2
  go_region
  all_goals (go_wp2; go_ret; exact ⟨rfl, Below.drew (Below.refl B w)⟩)
end Go.Proofs.YtefbfgcbbpmhlabGreatDoor

/-
  How long a value's text is. Plain.
-/
namespace Go.Proofs.YtefbfgcbbpmhlabGreatDoor
open Go.RowKit
set_option maxRecDepth 100000

theorem sepsL_long : ∀ l : List V, (∀ x ∈ l, x.txt.length + 1 ≤ 4 * x.bulk + 45 * x.cnt) → (sepsL l).length ≤ 4 * bulkL l + 45 * cntL l
  | [], _ => by simp [sepsL]
  | x :: l, h => by
    have a := h x (by simp)
    have b := sepsL_long l (fun y hy => h y (by simp [hy]))
    rw [sepsL, bulkL, cntL]
    simp
    omega
theorem sepsF_long : ∀ l : List (ByteArray × V), (∀ q ∈ l, q.2.txt.length + 1 ≤ 4 * q.2.bulk + 45 * q.2.cnt) → (sepsF l).length ≤ 4 * bulkF l + 45 * cntF l
  | [], _ => by simp [sepsF]
  | q :: l, h => by
    have a := h q (by simp)
    have b := sepsF_long l (fun y hy => h y (by simp [hy]))
    have c := flatN_len q.1.data.toList
    have z : q.1.data.toList.length = q.1.size := by simp
    rw [z] at c
    rw [sepsF, fieldT_eq, bulkF_cons, cntF_cons, nameT]
    simp only [List.length_append, List.length_cons]
    omega
theorem txt_long (v : V) : v.Shp → v.txt.length + 1 ≤ 4 * v.bulk + 45 * v.cnt := by
  induction v using V.ind with
  | h v hL hF =>
    intro hS
    obtain ⟨ho, sL, sF⟩ := (shp_eq v).1 hS
    have aL := sepsL_long v.l (fun x hx => hL x hx (by
      obtain ⟨i, hi⟩ := List.getElem?_of_mem hx
      exact (shpL_iff v.l).1 sL i x hi))
    have aF := sepsF_long v.f (fun q hq => hF q hq (by
      obtain ⟨i, hi⟩ := List.getElem?_of_mem hq
      exact (shpF_iff v.f).1 sF i q hi))
    have zs : v.s.data.toList.length = v.s.size := by simp
    have cS := flat_len v.s.data.toList
    have cN := flatN_len v.s.data.toList
    rw [zs] at cS cN
    rw [bulk_eq', cnt_eq, txt_eq]
    rcases ho with ⟨hk, _⟩ | ⟨hk, _⟩ | ⟨hk, hn, _⟩ | ⟨hk, _⟩ | ⟨hk, _⟩ | ⟨hk, _⟩ | ⟨hk, _⟩ | ⟨hk, h1, h2, _⟩ <;> rw [hk]
    · show 4 + 1 ≤ _; omega
    · rw [if_pos rfl]; split
      · show 4 + 1 ≤ _; omega
      · show 5 + 1 ≤ _; omega
    · rw [if_neg (by decide), if_pos rfl, txtB_ok hn]
      have := fixTxt_len v.n hn
      show (fixTxt v.n).length + 1 ≤ _
      omega
    · show (strT v.s.data.toList).length + 1 ≤ _
      unfold strT
      simp only [List.length_append, List.length_cons, List.length_nil]
      omega
    · show (nameT v.s.data.toList).length + 1 ≤ _
      unfold nameT
      simp only [List.length_cons]
      omega
    · show (91 :: (sepsL v.l).drop 1 ++ [93]).length + 1 ≤ _
      simp only [List.length_append, List.length_cons, List.length_nil, List.length_drop]
      omega
    · show (60 :: 60 :: sepsF v.f ++ [32, 62, 62]).length + 1 ≤ _
      simp only [List.length_append, List.length_cons, List.length_nil]
      omega
    · show (Lib.decDigits (v.n.toNat % 100) ++ [32, 48, 32, 82]).length + 1 ≤ _
      have q : (Lib.decDigits (v.n.toNat % 100)).length ≤ 2 := by
        by_cases h : v.n.toNat % 100 < 10
        · rw [dec_one h]; simp
        · rw [Lib.decDigits_two h (by omega)]; simp
      simp only [List.length_append, List.length_cons, List.length_nil]
      omega
end Go.Proofs.YtefbfgcbbpmhlabGreatDoor
