/-
  A closed fact: lines of text (the laws' laid).
-/
import Derived.Test.YtogdfjkbkhnobaaSv
namespace Go.Proofs.Ytogdfjkbkhnobaa
open Go.Shelf Go.RowKit Go.Lib Go.Sort
set_option maxRecDepth 1000000

/-- 'string(rs)' where rs are the signs ns. -/
theorem run_forIn_runes {w : World} (f : Value → ByteArray → Sem (ForInStep ByteArray)) (hf : ∀ (n : Int) (r : ByteArray), (f (.int .i32 n) r).run Try.prog w = .ok (.yield (r ++ Utf8.encode n)) w) :
    ∀ (ns : List Int) (s : ByteArray), (forIn (ns.map (Value.int .i32)) s f).run Try.prog w = .ok (ns.foldl (fun r n => r ++ Utf8.encode n) s) w := by
  intro ns
  induction ns with
  | nil => intro s; simp [Sem.run_pure]
  | cons n ns ih =>
    intro s
    simp only [List.map_cons, List.forIn_cons, Sem.run_bind, hf, Result.andThen, List.foldl_cons]
    exact ih _
theorem run_conv_runes (w : World) (b off cap : Nat) (ns : List Int) (hc : ∀ (k : Nat) z, ns[k]? = some z → w.cell? ⟨b, off + k, none⟩ = some (.int .i32 z)) :
    (convert 25 9 (.slice (some ⟨b, off, none⟩) ns.length cap)).run Try.prog w = .ok (.string (ns.foldl (fun r n => r ++ Utf8.encode n) ByteArray.empty)) w := by
  have e : (convert 25 9 (.slice (some ⟨b, off, none⟩) ns.length cap)).run Try.prog w = (Conv.runesToString (.slice (some ⟨b, off, none⟩) ns.length cap)).run Try.prog w := by
    simp [convert, run_underlying Try.underlying25, run_underlying Try.underlying9, run_underlying Try.underlying21]
  rw [e]
  have hl := run_loadCells_list (P := Try.prog) w ⟨b, off, none⟩ (ns.map (Value.int .i32)) (fun j v hj => by
    rw [List.getElem?_map] at hj
    cases ez : ns[j]? with
    | none => rw [ez] at hj; cases hj
    | some z => rw [ez] at hj; injection hj with hj; subst hj; rw [Lib.add_plain]; exact hc j z ez)
  rw [List.length_map] at hl
  unfold Conv.runesToString
  simp only [Sem.run_bind, hl, Result.andThen, List.forIn_toArray]
  rw [run_forIn_runes _ (by intro n r; simp [Sem.run_pure])]
  simp [Sem.run_pure]
/-- One glyph. -/
def gyOne : Gy := ⟨⟨#[97]⟩, 0, 0, 0, 0, 1000, 0, 0, 0, 0⟩
theorem one_lns : Lns [gyOne] [[0]] := by
  refine ⟨[0], ?_, ?_, ?_, ?_⟩
  · have : txP [gyOne] [gyOne].length = [0] := by decide
    rw [this]
  · exact List.pairwise_singleton _ _
  · decide
  · intro k r r0 h1 h2
    have e : lnsP [gyOne] [0] [0].length = [[0]] := by decide
    have h2 : ([[0]] : List (List Int))[k]? = some r0 := by rw [← e]; exact h2
    match k, h1, h2 with
    | 0, h1, h2 =>
      injection h1 with h1
      injection h2 with h2
      subst h1 h2
      exact ⟨List.Perm.refl _, List.pairwise_singleton _ _⟩
    | k + 1, h1, _ => simp at h1
theorem one_tx : txL [gyOne] [[0]] = [(97, 0, 0)] := by decide +kernel
theorem one_ok : ∀ g ∈ [gyOne], GyOk g := fun g hg => by
  rw [List.mem_singleton] at hg
  subst hg
  exact ⟨⟨by decide, by decide⟩, ⟨by decide, by decide⟩, ⟨by decide, by decide⟩, ⟨by decide, by decide⟩, ⟨by decide, by decide⟩, by decide⟩
theorem one_valid : ∀ g ∈ [gyOne], (rns g.s.data.toList).isSome = true := fun g hg => by
  rw [List.mem_singleton] at hg
  subst hg
  decide +kernel
theorem gyAt_new (w : World) (g : Gy) (t : TypeId) : GyAt (w.alloc (.cells g.cs.toArray t)) (some ⟨w.heap.size, 0, none⟩) [g] := fun i x hx => by
  match i, hx with
  | 0, hx =>
    injection hx with hx
    subst hx
    refine ⟨w.heap.size, 0, rfl, by simp, fun j u hu => ?_⟩
    rw [World.cell?_alloc_at _ _ _ _ rfl]
    simpa using hu
  | i + 1, hx => simp at hx
set_option maxHeartbeats 2000000 in
theorem laid_says (w : World) : Calls Try.prog 15 #[] w fun e w' => e = .returned (.bool true) ∧ Below w.heap.size w w' := by
  go_enter Try.func15, Try.ntmps15
  go_wp2_with (go_at_call 8; fail)
  go_at_call 8
  refine (Of_says [gyOne] _ _ _ (by decide) one_ok one_valid (gyAt_new w gyOne 44)).mono ?_
  rintro e w1 ⟨v1, v2, v3, R, rfl, hR, h1, h2, h3, hb⟩
  have eR := hR.unique one_lns
  subst eR
  rw [one_tx] at h1 h2 h3
  obtain ⟨a1, c1, e1, h1⟩ := h1
  obtain ⟨a2, c2, e2, _⟩ := h2
  obtain ⟨a3, c3, e3, _⟩ := h3
  obtain ⟨b, off, u, f1, _, f3, f4, f5⟩ := h1 0 97 rfl
  subst e1 e2 e3 f1 f5
  simp only [List.map_cons, List.map_nil, List.length_singleton]
  clear h1 hR
  have hcv : ∀ o, (convert 25 9 (.slice (some ⟨b, off, none⟩) 1 c1)).run Try.prog (w1.alloc o) = .ok (.string ⟨#[97]⟩) (w1.alloc o) := fun o => by
    have q := run_conv_runes (w1.alloc o) b off c1 [97] (fun k z hz => by
      match k, hz with
      | 0, hz =>
        injection hz with hz
        subst hz
        exact (((Below.refl _ _).alloc (Nat.le_refl _) _).cell (p := ⟨b, off + 0, none⟩) f3).trans f4
      | k + 1, hz => simp at hz)
    have e97 : [97].foldl (fun r n => r ++ Utf8.encode n) ByteArray.empty = ⟨#[97]⟩ := by decide +kernel
    rw [e97] at q
    exact q
  go_wp2_with fail
  go_ret
  exact ⟨rfl, (((Below.refl _ _).alloc (Nat.le_refl _) _).trans (hb.mono (by simp))).alloc (by have := hb.size; simp at this; omega) _⟩
end Go.Proofs.Ytogdfjkbkhnobaa
