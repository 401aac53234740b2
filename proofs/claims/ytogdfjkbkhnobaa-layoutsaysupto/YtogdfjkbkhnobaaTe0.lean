/-
  LayoutSays: the walk.
-/
import Derived.Test.YtogdfjkbkhnobaaTd1
namespace Go.Proofs.Ytogdfjkbkhnobaa
open Go.Shelf Go.RowKit Go.Lib Go.Sort
set_option maxRecDepth 1000000

/-- Two glyphs. -/
def gyTwo : List Gy := [⟨⟨#[98]⟩, 9000, 0, 9500, 0, 1000, 0, 0, 0, 0⟩, ⟨⟨#[97]⟩, 0, 0, 500, 0, 1000, 0, 0, 0, 0⟩]
theorem two_lns : Lns gyTwo [[1, 0]] := by
  refine ⟨[0, 1], ?_, ?_, ?_, ?_⟩
  · have : txP gyTwo gyTwo.length = [0, 1] := by decide
    rw [this]
  · refine List.pairwise_cons.2 ⟨fun y hy => ?_, List.pairwise_singleton _ _⟩
    rw [List.mem_singleton] at hy
    subst hy
    exact .inr ⟨by decide, by decide⟩
  · decide
  · intro k r r0 h1 h2
    have e : lnsP gyTwo [0, 1] [0, 1].length = [[0, 1]] := by decide
    have h2 : ([[0, 1]] : List (List Int))[k]? = some r0 := by rw [← e]; exact h2
    match k, h1, h2 with
    | 0, h1, h2 =>
      injection h1 with h1
      injection h2 with h2
      subst h1 h2
      refine ⟨by decide, List.pairwise_cons.2 ⟨fun y hy => ?_, List.pairwise_singleton _ _⟩⟩
      rw [List.mem_singleton] at hy
      subst hy
      exact .inl (by decide)
    | k + 1, h1, _ => simp at h1
theorem two_tx : txL gyTwo [[1, 0]] = [(97, 1, 0), (32, -1, 0), (98, 0, 0)] := by decide +kernel
theorem two_ok : ∀ g ∈ gyTwo, GyOk g := fun g hg => by
  rcases List.mem_cons.1 hg with rfl | hg
  · exact ⟨⟨by decide, by decide⟩, ⟨by decide, by decide⟩, ⟨by decide, by decide⟩, ⟨by decide, by decide⟩, ⟨by decide, by decide⟩, by decide⟩
  · rw [List.mem_singleton] at hg
    subst hg
    exact ⟨⟨by decide, by decide⟩, ⟨by decide, by decide⟩, ⟨by decide, by decide⟩, ⟨by decide, by decide⟩, ⟨by decide, by decide⟩, by decide⟩
theorem two_valid : ∀ g ∈ gyTwo, (rns g.s.data.toList).isSome = true := fun g hg => by
  rcases List.mem_cons.1 hg with rfl | hg
  · decide +kernel
  · rw [List.mem_singleton] at hg
    subst hg
    decide +kernel
theorem gyAt_two (w : World) (g h : Gy) (t : TypeId) : GyAt (w.alloc (.cells (g.cs ++ h.cs).toArray t)) (some ⟨w.heap.size, 0, none⟩) [g, h] := fun i x hx => by
  match i, hx with
  | 0, hx =>
    injection hx with hx
    subst hx
    refine ⟨w.heap.size, 0, rfl, by simp, fun j u hu => ?_⟩
    rw [World.cell?_alloc_at _ _ _ _ rfl]
    have hj := (List.getElem?_eq_some_iff.1 hu).1
    rw [List.getElem?_toArray, show 0 + 0 * 10 + j = j by omega, List.getElem?_append_left hj]
    exact hu
  | 1, hx =>
    injection hx with hx
    subst hx
    refine ⟨w.heap.size, 0, rfl, by simp, fun j u hu => ?_⟩
    rw [World.cell?_alloc_at _ _ _ _ rfl]
    rw [List.getElem?_toArray, show 0 + 1 * 10 + j = g.cs.length + j by simp, List.getElem?_append_right (Nat.le_add_right _ _), Nat.add_sub_cancel_left]
    exact hu
  | i + 2, hx => simp at hx
set_option maxHeartbeats 2000000 in
theorem lays_says (w : World) : Calls Try.prog 6 #[] w fun e w' => e = .returned (.bool true) ∧ Below w.heap.size w w' := by
  go_enter Try.func6, Try.ntmps6
  go_wp2_with (go_at_call 8; fail)
  go_at_call 8
  refine (Of_says gyTwo _ _ _ (by decide) two_ok two_valid (gyAt_two w _ _ 44)).mono ?_
  rintro e w1 ⟨v1, v2, v3, R, rfl, hR, h1, h2, h3, hb⟩
  have eR := hR.unique two_lns
  subst eR
  rw [two_tx] at h1 h2 h3
  obtain ⟨a1, c1, e1, h1⟩ := h1
  obtain ⟨a2, c2, e2, h2⟩ := h2
  obtain ⟨a3, c3, e3, _⟩ := h3
  obtain ⟨b, off, u, f1, _, f3, f4, f5⟩ := h1 0 97 rfl
  obtain ⟨b2, off2, u2, k1, _, k3, k4, k5⟩ := h2 1 (-1) rfl
  subst e1 e2 e3 f1 f5 k1 k5
  simp only [List.map_cons, List.map_nil, List.length_cons, List.length_nil]
  have hcv : ∀ o, (convert 25 9 (.slice (some ⟨b, off, none⟩) 3 c1)).run Try.prog (w1.alloc o) = .ok (.string ⟨#[97, 32, 98]⟩) (w1.alloc o) := fun o => by
    have q := run_conv_runes (w1.alloc o) b off c1 [97, 32, 98] (fun k z hz => by
      obtain ⟨b', off', u', f1', _, f3', f4', f5'⟩ := h1 k z hz
      injection f1' with f1'
      injection f1' with i1 i2
      subst i1 i2 f5'
      exact (((Below.refl _ _).alloc (Nat.le_refl _) _).cell (p := ⟨b, off + k, none⟩) f3').trans f4')
    have e97 : [97, 32, 98].foldl (fun r n => r ++ Utf8.encode n) ByteArray.empty = ⟨#[97, 32, 98]⟩ := by decide +kernel
    rw [e97] at q
    exact q
  have k6 : ∀ o, (w1.alloc o).cell? ⟨b2, off2 + 1, none⟩ = some (.int .i64 (-1)) := fun o => (((Below.refl _ _).alloc (Nat.le_refl _) _).cell (p := ⟨b2, off2 + 1, none⟩) k3).trans k4
  clear h1 h2 hR k4
  go_wp2_with fail
  go_ret
  exact ⟨rfl, (((Below.refl _ _).alloc (Nat.le_refl _) _).trans (hb.mono (by simp))).alloc (by have := hb.size; simp at this; omega) _⟩
end Go.Proofs.Ytogdfjkbkhnobaa
